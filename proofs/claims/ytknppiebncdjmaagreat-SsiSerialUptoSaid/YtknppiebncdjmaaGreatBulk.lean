/- What the bound of an '..UptoSaid' statement gives: no text and no slice that is read is longer than the bound. -/
import Derived.Test.YtknppiebncdjmaaGreatRows
import Derived.Test.YtknppiebncdjmaaGreatJAO
namespace Go.Proofs.YtknppiebncdjmaaGreat
set_option maxRecDepth 100000

theorem bulk_pos {H : Type} (d : DataW H) : 1 ≤ Rows.uptoBulk d := by
  cases d with
  | lit l => cases l <;> simp [Rows.uptoBulk]
  | _ => simp [Rows.uptoBulk]
theorem bulk_len {H : Type} (l : List (DataW H)) : l.length ≤ Rows.uptoBulkAll l := by
  induction l with
  | nil => simp
  | cons x r ih => have := bulk_pos x; simp only [Rows.uptoBulkAll, List.length_cons]; omega
theorem bulk_part {H : Type} {d : DataW H} {l : List (DataW H)} {j : Nat} (h : l[j]? = some d) : Rows.uptoBulk d ≤ Rows.uptoBulkAll l := by
  induction l generalizing j with
  | nil => simp at h
  | cons x r ih =>
    cases j with
    | zero => simp at h; subst h; simp only [Rows.uptoBulkAll]; omega
    | succ j => have := ih (j := j) (by simpa using h); simp only [Rows.uptoBulkAll]; omega
theorem bulk_field {H : Type} {d : DataW H} {l : List (DataW H)} {j B : Nat} (h : l[j]? = some d) (hb : Rows.uptoBulk (.agg l) ≤ B) : Rows.uptoBulk d ≤ B := by
  have := bulk_part h
  simp only [Rows.uptoBulk] at hb
  omega
theorem bulk_bytes {H : Type} {d : DataW H} {cap B : Nat} (hb : Rows.uptoBulk d ≤ B) (hd : (d = .nil ∧ cap = 0) ∨ ∃ elems rest, d = .slice elems rest ∧ elems.length + rest.length = cap) : cap ≤ B := by
  rcases hd with ⟨_, rfl⟩ | ⟨elems, rest, rfl, hc⟩
  · omega
  · have h1 := bulk_len elems
    have h2 := bulk_len rest
    simp only [Rows.uptoBulk] at hb
    omega
theorem bulk_string {H : Type} {l : List UInt8} {B : Nat} (hb : Rows.uptoBulk (DataW.lit (H := H) (.string l)) ≤ B) : l.length ≤ B := by
  simp only [Rows.uptoBulk] at hb
  omega

end Go.Proofs.YtknppiebncdjmaaGreat
