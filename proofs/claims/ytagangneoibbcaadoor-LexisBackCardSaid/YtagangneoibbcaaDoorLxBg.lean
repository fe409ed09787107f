/- Layer 12: begun. -/
import Derived.Test.YtagangneoibbcaaDoorLxTk
set_option linter.unusedVariables false
namespace Go.Proofs.YtagangneoibbcaaDoor
set_option maxRecDepth 100000
set_option maxRecDepth 100000
open Go.RowKit

theorem toks_begun : toksP (strB ⟨#[97, 32, 49]⟩) = ([⟨1, ⟨#[97]⟩, 0, 0, ⟨#[]⟩, 0⟩, ⟨2, ⟨#[]⟩, 1, 1, ⟨#[]⟩, 2⟩], 0, 0) := by rfl
theorem TokensIs.yes_ {s : ByteArray} {w w' : World} {e : Ending} (h : TokensIs s w e w') (hs : s.size ≤ 65536) (h0 : (toksP (strB s)).2.2 = 0) : Below w.heap.size w w' ∧ ∃ v, e = .returned (.tuple #[v, .int .i64 0, .int .i64 0]) ∧ TL w.heap.size w' v (toksP (strB s)).1 := by
  unfold TokensIs at h
  rw [if_neg (by omega), if_pos h0] at h
  exact h
theorem TokensIs.no_ {s : ByteArray} {w w' : World} {e : Ending} (h : TokensIs s w e w') (hs : s.size ≤ 65536) (h0 : ¬ (toksP (strB s)).2.2 = 0) : Below w.heap.size w w' ∧ e = .returned (.tuple #[.slice none 0 0, .int .i64 ((toksP (strB s)).2.1 : Nat), .int .i64 (toksP (strB s)).2.2]) := by
  unfold TokensIs at h
  rw [if_neg (by omega), if_neg h0] at h
  exact h
set_option maxHeartbeats 4000000 in
theorem wBegun (w : World) (he : ErrAt w) : Calls Tryd.prog 11 #[] w fun e w' => e = .returned (.bool true) ∧ Below w.heap.size w w' := by
  have CT := Lib.hid ((wTokens ⟨#[97, 32, 49]⟩ w (by decide) he).mono fun e w' h => h.yes_ (by decide) (by rw [toks_begun]))
  rw [toks_begun] at CT
  clear he
  go_enter Tryd.func11, Tryd.ntmps11
  go_upto_region 2 with (go_at_call 9; go_loud (refine CT.out.mono ?_; rintro e w1 ⟨b1, v, rfl, t1⟩; obtain ⟨A, c, rfl, hs, hc⟩ := t1.form; have B1 := Lib.hid b1; obtain ⟨g, o, rfl, q0⟩ := SB.elE Tk.len (by decide) hs (j := 0) rfl; obtain ⟨g2, o2, hgo, q1⟩ := SB.elE Tk.len (by decide) hs (j := 1) rfl; have e1 : w1.cell? ⟨g, o + 1, none⟩ = some (.string ⟨#[97]⟩) := (by have := q0 1 _ rfl; simpa using this); clear b1 t1 hs))
  obtain ⟨rfl, rfl⟩ : g = g2 ∧ o = o2 := by
    have h1 := Option.some.inj hgo
    injection h1 with h1 h2 _
    exact ⟨h1, h2⟩
  have e2 : w1.cell? ⟨g, o + 8 + 3, none⟩ = some (.int .i64 1) := by have := q1 3 _ rfl; simpa using this
  have e3 : w1.cell? ⟨g, o + 8 + 7, none⟩ = some (.int .i64 2) := by have := q1 7 _ rfl; simpa using this
  clear q0 q1 hgo
  go_wp2
  go_ret
  exact ⟨rfl, B1.out⟩
end Go.Proofs.YtagangneoibbcaaDoor
