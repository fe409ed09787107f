/- Layer 10: blocks that a law's own operations leave alone; flags in a list. -/
import Derived.Test.YtknppiebncdjmaaGreatSsLst
import Derived.Test.YtknppiebncdjmaaGreatSsLev
set_option linter.unusedVariables false
namespace Go.Proofs.YtknppiebncdjmaaGreat
set_option maxRecDepth 100000
open Go.RowKit

section
variable {P : Nat → Prop} {wf w0 w w' : World} {G K : Nat → Prop} {p b : Nat} {V : WdV} {rows : List Lk} {vs : List Ver10} {ms : List RunM} {c : Cp10} {S S' : St10} {X : Pl10}
theorem Do10.frame (D : Do10 P wf w0 w G K p b V rows vs ms c S) (g : Below w.heap.size w w') : Do10 (fun k => w.heap.size ≤ k ∧ k < w'.heap.size) w' w0 w' G K p b V rows vs ms c S := by
  refine ⟨D.m.below g, (D.d.below g).keep (fun _ _ => rfl) fun k hk hg => ?_, D.g, below_next D.z g, Out.refl _ _, fun k hk => ⟨hk.2, fun h => ?_, fun h => ?_⟩⟩
  · rcases hg with hg | hg
    · exact D.d.ap k hk (.inl hg)
    · have := (D.d.lt k hk).2; omega
  · have := D.m.lt.1 k h; omega
  · have := D.m.lt.2 k h; omega
theorem Do10.free (D : Do10 P wf w0 w G K p b V rows vs ms c S) : Do10 (fun _ => False) w0 w0 w G K p b V rows vs ms c S :=
  ⟨D.m, D.d.keep (fun _ _ => rfl) fun k hk hg => hg.elim (fun h => D.d.ap k hk (.inl h)) id, D.g, D.z, Out.of_below D.z _, fun _ h => h.elim⟩
theorem DoIs.free (h : DoIs P wf w0 p b rows c X w) : DoIs (fun _ => False) w0 w0 p b rows c X w := by
  obtain ⟨G, K, V, ms, D, hms⟩ := h
  exact ⟨G, K, V, ms, D.free, hms⟩
theorem DoIs.kept (h : DoIs P wf w0 p b rows c X w) : ∀ k, P k → w.heap[k]? = wf.heap[k]? := by
  obtain ⟨G, K, V, ms, D, hms⟩ := h
  exact fun k hk => D.f.block k (D.pg k hk).1 fun hn => hn hk
end
def flC (f : Bool × Bool) : List Value := [.bool f.1, .bool f.2]
theorem flC_len (f : Bool × Bool) : (flC f).length = 2 := rfl
def seG : SEl := ⟨77, 79, .agg #[.bool false, .bool false], 2, 2⟩
theorem seG_ok : seG.Ok := ⟨by kernel_rfl, by kernel_rfl, by kernel_rfl, by decide, by decide, by decide⟩
theorem sb_flag (X : World) (f : Bool × Bool) : SB (X.alloc (.cells #[.bool f.1, .bool f.2] 79)) (some ⟨X.heap.size, 0, none⟩) (seG.s * 1) (cellsF flC [f]) := by
  refine ⟨rfl, ?_, fun _ => ⟨X.heap.size, 0, rfl, fun j u hj => ?_⟩⟩
  · intro u hu
    simp [cellsF, flC] at hu
    rcases hu with rfl | rfl <;> rfl
  · rw [cell_of_row _ _ _ _ _ _ (heap_alloc_new X _)]
    simpa [cellsF, flC] using hj
def befF (S : St10) (rs : List Run10) : List (Bool × Bool) := rs.map fun r => (of10 S r.tx).2.1
theorem bef_take {S : St10} {rs : List Run10} {k : Nat} {r : Run10} (h : rs[k]? = some r) : befF S (rs.take (k + 1)) = befF S (rs.take k) ++ [(of10 S r.tx).2.1] := by
  unfold befF
  rw [List.take_add_one, h, Option.toList_some, List.map_append]
  rfl
theorem neqFl (W : World) (a b : Bool) : (binOp .neq 79 (.agg #[.bool a, .bool b]) (.agg #[.bool a, .bool b])).run Tryz.prog W = .ok (.bool false) W := by
  cases a <;> cases b <;> kernel_rfl
end Go.Proofs.YtknppiebncdjmaaGreat
