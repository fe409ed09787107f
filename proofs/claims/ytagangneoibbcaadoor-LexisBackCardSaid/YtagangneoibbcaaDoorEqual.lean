/- The call of bytes.Equal. -/
import Derived.Test.YtagangneoibbcaaDoorProg
import Derived.Test.YtagangneoibbcaaDoorMem
import Derived.Shelf.Bytes.SlEqualAll
set_option linter.unusedVariables false
namespace Go.Proofs.YtagangneoibbcaaDoor
set_option maxRecDepth 100000
open Go.RowKit

theorem rb_in {w : World} {A : Option Addr} {n : Nat} {zs : List Int} (h : RB w A n zs) : Lib.BytesIn w A n zs := by
  rcases Nat.eq_zero_or_pos n with h0 | h0
  · subst h0; exact Lib.BytesIn.nil _ _ _
  · obtain ⟨ad, rfl, hc⟩ := h.cell h0
    exact Lib.BytesIn.of_cells hc

theorem rb_str {w : World} {A : Option Addr} {n : Nat} {zs : List Int} (h : RB w A n zs) (c : Nat) :
    (convert 58 9 (.slice A n c)).run Tryd.prog w = .ok (.string (strOfNums zs)) w :=
  (rb_in h).convert h.len c 58 5 9 Tryd.underlying58 Tryd.underlying5 Tryd.underlying9

theorem bytes_inj {zs ys : List Int} (hz : ∀ z ∈ zs, 0 ≤ z ∧ z ≤ 255) (hy : ∀ z ∈ ys, 0 ≤ z ∧ z ≤ 255) (h : Lib.bytesOf zs = Lib.bytesOf ys) : zs = ys := by
  have h1 : (zs.map fun n => UInt8.ofNat n.toNat) = ys.map fun n => UInt8.ofNat n.toNat := h
  clear h
  induction zs generalizing ys with
  | nil => cases ys with
    | nil => rfl
    | cons y ys => simp at h1
  | cons z zs ih => cases ys with
    | nil => simp at h1
    | cons y ys =>
      simp only [List.map_cons, List.cons.injEq] at h1
      have a := hz z (by simp)
      have b := hy y (by simp)
      have e : (UInt8.ofNat z.toNat).toNat = (UInt8.ofNat y.toNat).toNat := by rw [h1.1]
      simp only [UInt8.toNat_ofNat'] at e
      rw [ih (fun x hx => hz x (by simp [hx])) (fun x hx => hy x (by simp [hx])) h1.2]
      congr 1
      omega

end Go.Proofs.YtagangneoibbcaaDoor
