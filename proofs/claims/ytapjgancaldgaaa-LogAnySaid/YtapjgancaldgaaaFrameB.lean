/- Frames on lists: four bytes of a number, a frame, what is taken at a place. No program is named here. -/
import Derived.Test.YtapjgancaldgaaaCrc
import Derived.Test.YtapjgancaldgaaaDig
import Derived.Laws.CopyOwn
namespace Go.Proofs.Ytapjgancaldgaaa
set_option maxRecDepth 100000

def byteAt (v k : Nat) : Int := ((v / 256 ^ k % 256 : Nat) : Int)
def wordB (v : Nat) : List Int := [byteAt v 0, byteAt v 1, byteAt v 2, byteAt v 3]
/-- the first k of four bytes as a number, the lowest first -/
def part (zs : List Int) : Nat → Nat
  | 0 => 0
  | k + 1 => part zs k + (zs.getD k 0).toNat * 256 ^ k
def w4 (zs : List Int) : Nat := part zs 4
def frameB (zs : List Int) : List Int := wordB zs.length ++ (wordB (Crc.sum zs) ++ zs)

/-- What TakeFrame answers. -/
def takeFrame (zs : List Int) (at_ : Int) : List Int × Nat × Nat :=
  if at_ < 0 ∨ (zs.length : Int) < at_ then ([], 0, 1)
  else if zs.length < at_.toNat + 8 then ([], 0, 10)
  else if 1048576 < w4 (zs.drop at_.toNat) ∨ zs.length < at_.toNat + 8 + w4 (zs.drop at_.toNat) then ([], 0, 10)
  else if Crc.sum ((zs.drop (at_.toNat + 8)).take (w4 (zs.drop at_.toNat))) ≠ w4 (zs.drop (at_.toNat + 4)) then ([], 0, 10)
  else ((zs.drop (at_.toNat + 8)).take (w4 (zs.drop at_.toNat)), w4 (zs.drop at_.toNat) + 8, 0)

theorem byteAt_byte (v k : Nat) : 0 ≤ byteAt v k ∧ byteAt v k ≤ 255 := by unfold byteAt; omega
theorem wordB_byte (v : Nat) : ∀ z ∈ wordB v, 0 ≤ z ∧ z ≤ 255 := by
  intro z hz
  simp only [wordB, List.mem_cons, List.not_mem_nil, or_false] at hz
  rcases hz with rfl | rfl | rfl | rfl <;> exact byteAt_byte _ _
theorem wordB_len (v : Nat) : (wordB v).length = 4 := rfl
theorem wordB_getD (v k : Nat) (hk : k < 4) : (wordB v).getD k 0 = byteAt v k := by
  match k, hk with
  | 0, _ => rfl
  | 1, _ => rfl
  | 2, _ => rfl
  | 3, _ => rfl
theorem part_lt (zs : List Int) (h : ∀ k, 0 ≤ zs.getD k 0 ∧ zs.getD k 0 ≤ 255) : ∀ k, part zs k < 256 ^ k
  | 0 => by simp [part]
  | k + 1 => by
    have h1 := part_lt zs h k
    have h2 : (zs.getD k 0).toNat * 256 ^ k ≤ 255 * 256 ^ k := Nat.mul_le_mul_right _ (by have := h k; omega)
    rw [part, Nat.pow_succ]; omega
theorem w4_lt (zs : List Int) (h : ∀ k, 0 ≤ zs.getD k 0 ∧ zs.getD k 0 ≤ 255) : w4 zs < 4294967296 := part_lt zs h 4
theorem w4_word (v : Nat) (hv : v < 4294967296) (zs : List Int) : w4 (wordB v ++ zs) = v := by
  have hg : ∀ k, k < 4 → ((wordB v ++ zs).getD k 0).toNat = v / 256 ^ k % 256 := by
    intro k hk
    have : (wordB v ++ zs).getD k 0 = (wordB v).getD k 0 := by
      simp [List.getD_eq_getElem?_getD, List.getElem?_append_left (show k < (wordB v).length by rw [wordB_len]; exact hk)]
    rw [this, wordB_getD v k hk, byteAt, Int.toNat_natCast]
  simp only [w4, part, hg 0 (by omega), hg 1 (by omega), hg 2 (by omega), hg 3 (by omega)]
  omega
theorem frameB_len (zs : List Int) : (frameB zs).length = zs.length + 8 := by
  simp [frameB, wordB_len]; omega
theorem frameB_byte (zs : List Int) (h : ∀ z ∈ zs, 0 ≤ z ∧ z ≤ 255) : ∀ z ∈ frameB zs, 0 ≤ z ∧ z ≤ 255 := by
  intro z hz
  simp only [frameB, List.mem_append] at hz
  rcases hz with hz | hz | hz
  · exact wordB_byte _ z hz
  · exact wordB_byte _ z hz
  · exact h z hz
/-- What is laid over a list from a place on, one element further. -/
theorem splice_step {α : Type} (L : List α) (o k : Nat) (xs : List α) (d : α) (hk : k < xs.length) (hfit : o + xs.length ≤ L.length) :
    (splice L o (xs.take k)).set (o + k) (xs.getD k d) = splice L o (xs.take (k + 1)) := by
  have hx : xs.take (k + 1) = xs.take k ++ [xs.getD k d] := by
    rw [List.take_succ_eq_append_getElem hk]; simp [List.getD_eq_getElem?_getD, List.getElem?_eq_getElem hk]
  have hl : (xs.take k).length = k := by rw [List.length_take]; omega
  have hlo : (L.take o).length = o := by rw [List.length_take]; omega
  have hd : L.drop (o + k) = L[o + k]'(by omega) :: L.drop (o + k + 1) := List.drop_eq_getElem_cons (by omega)
  unfold splice
  rw [hx, List.length_append, hl, hd, List.set_append_right _ _ (by omega), hlo, List.set_append_right _ _ (by omega), hl]
  simp [Nat.add_assoc]
theorem splice_full {α : Type} (L : List α) (o : Nat) (xs : List α) : splice L o (xs.take xs.length) = splice L o xs := by rw [List.take_length]
theorem splice_byte {L xs : List Int} {o : Nat} (h1 : ∀ z ∈ L, 0 ≤ z ∧ z ≤ 255) (h2 : ∀ z ∈ xs, 0 ≤ z ∧ z ≤ 255) : ∀ z ∈ splice L o xs, 0 ≤ z ∧ z ≤ 255 := by
  intro z hz
  simp only [splice, List.mem_append] at hz
  rcases hz with hz | hz | hz
  · exact h1 z (List.mem_of_mem_take hz)
  · exact h2 z hz
  · exact h1 z (List.mem_of_mem_drop hz)

end Go.Proofs.Ytapjgancaldgaaa
