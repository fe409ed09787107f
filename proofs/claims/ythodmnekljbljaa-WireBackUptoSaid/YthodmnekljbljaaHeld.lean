/- Contracts of calls that make memory, with a cell that is kept: for statements whose order Go leaves open. -/
import Derived.Test.YthodmnekljbljaaLive
import Derived.Test.YthodmnekljbljaaUint
namespace Go.Proofs.Ythodmnekljbljaa
open Go.RowKit

/-- The contracts once more, with a cell that is kept. -/
theorem live_held (p : Addr) (v : Value) (w : World) (h : w.cell? p = some v) : Calls Try.prog 14 #[] w fun e w' => e = .returned (.bool true) ∧ Below w.heap.size w w' ∧ w'.cell? p = some v :=
  (live_true w).mono fun _ _ ⟨he, hb⟩ => ⟨he, hb, keep_below h hb⟩
def MakesHeld (p : Addr) (u : Value) (w : World) (zs : List Int) (e : Ending) (w' : World) : Prop := ∃ A c, e = .returned (.slice A zs.length c) ∧ RB w' A zs.length zs ∧ Below w.heap.size w w' ∧ w'.cell? p = some u
theorem makes_held {p : Addr} {u : Value} {w : World} {zs : List Int} (h : w.cell? p = some u) (e : Ending) (w' : World) (hm : Makes w zs e w') : MakesHeld p u w zs e w' := by
  obtain ⟨v, rfl, ho, hb⟩ := hm
  obtain ⟨A, c, rfl, hr, -, -⟩ := ho.form
  exact ⟨A, c, rfl, hr, hb, keep_below h hb⟩

end Go.Proofs.Ythodmnekljbljaa
