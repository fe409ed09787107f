/- The laws' own helpers: alike, spoil. -/
import Derived.Test.YtapjgancaldgaaaDLoad
import Derived.Shelf.Bytes.SlEqualAll
namespace Go.Proofs.Ytapjgancaldgaaa
set_option maxRecDepth 100000
open Go.RowKit

theorem rb_in {w : World} {A : Option Addr} {n : Nat} {zs : List Int} (h : RB w A n zs) : Lib.BytesIn w A n zs := by
  rcases Nat.eq_zero_or_pos n with h0 | h0
  · subst h0; exact Lib.BytesIn.nil _ _ _
  · obtain ⟨ad, rfl, hc⟩ := h.cell h0
    exact Lib.BytesIn.of_cells hc
theorem rb_str {w : World} {A : Option Addr} {n : Nat} {zs : List Int} (h : RB w A n zs) (c : Nat) :
    (convert 34 9 (.slice A n c)).run Try.prog w = .ok (.string (strOfNums zs)) w :=
  (rb_in h).convert h.len c 34 5 9 Try.underlying34 Try.underlying5 Try.underlying9
theorem bytes_inj {zs ys : List Int} (hz : ∀ z ∈ zs, 0 ≤ z ∧ z ≤ 255) (hy : ∀ z ∈ ys, 0 ≤ z ∧ z ≤ 255) (h : Lib.bytesOf zs = Lib.bytesOf ys) : zs = ys := by
  have h1 : (zs.map fun n => UInt8.ofNat n.toNat) = ys.map fun n => UInt8.ofNat n.toNat := h
  clear h
  induction zs generalizing ys with
  | nil => cases ys with
    | nil => rfl
    | cons y ys => simp at h1
  | cons z zs ih => cases ys with
    | nil => simp at h1
    | cons y ys =>
      simp only [List.map_cons, List.cons.injEq] at h1
      have a := hz z (by simp)
      have b := hy y (by simp)
      have e : (UInt8.ofNat z.toNat).toNat = (UInt8.ofNat y.toNat).toNat := by rw [h1.1]
      simp only [UInt8.toNat_ofNat'] at e
      rw [ih (fun x hx => hz x (by simp [hx])) (fun x hx => hy x (by simp [hx])) h1.2]
      congr 1
      omega

theorem lalike {A B : Option Addr} {n m : Nat} (c d : Nat) {zs ys : List Int} {w : World} (h1 : RB w A n zs) (h2 : RB w B m ys) :
    Calls Try.prog 61 #[.slice A n c, .slice B m d] w fun e w' => e = .returned (.bool (decide (zs = ys))) ∧ w = w' := by
  have k1 := rb_str h1 c
  have k2 := rb_str h2 d
  by_cases he : zs = ys
  · subst he
    go_enter Try.func61, Try.ntmps61
    go_wp2
    go_ret
    exact ⟨by simp, rfl⟩
  · have hs : ¬ (strOfNums zs).toList = (strOfNums ys).toList := fun e => he (bytes_inj h1.byte h2.byte (by rw [Lib.strOfNums_toList, Lib.strOfNums_toList] at e; exact e))
    rw [decide_eq_false he]
    go_enter Try.func61, Try.ntmps61
    go_wp2
    go_ret
    exact ⟨by simp [hs], rfl⟩

/-- Block g holds bytes, at least c. -/
def U8Blk (w : World) (g c : Nat) : Prop := ∃ C t, w.heap[g]? = some (.cells C t (0, 0)) ∧ ∀ j, j < c → ∃ z, C[j]? = some (.int .u8 z)
end Go.Proofs.Ytapjgancaldgaaa
