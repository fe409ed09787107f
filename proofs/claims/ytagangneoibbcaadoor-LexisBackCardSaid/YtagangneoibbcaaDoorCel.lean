/- A variable of the call's own in a block of its own. -/
import Derived.Test.YtagangneoibbcaaDoorOver
import Derived.Test.YtagangneoibbcaaDoorOwnB
set_option linter.unusedVariables false
namespace Go.Proofs.YtagangneoibbcaaDoor
set_option maxRecDepth 100000
open Go.RowKit

/-- Block b is a cell of one value that may be written. -/
def Cel (W : World) (b : Nat) (v : Value) : Prop := W.cell? ⟨b, 0, none⟩ = some v ∧ W.frozen? ⟨b, 0, none⟩ = false
theorem Cel.lt {W : World} {b : Nat} {v : Value} (h : Cel W b v) : b < W.heap.size := World.block_lt_of_cell? W ⟨b, 0, none⟩ h.1
theorem Cel.below {W W' : World} {b : Nat} {v : Value} (h : Cel W b v) (hb : Below W.heap.size W W') : Cel W' b v :=
  ⟨keep_below h.1 hb, (hb.frozen (p := ⟨b, 0, none⟩) h.lt).trans h.2⟩
theorem Cel.new (W : World) (v : Value) (t : TypeId) : Cel (W.alloc (.cells #[v] t)) W.heap.size v := by
  refine ⟨?_, ?_⟩
  · rw [cell_of_row (W.alloc (.cells #[v] t)) W.heap.size 0 #[v] t (0, 0) (heap_alloc_new W _)]
    simp
  · have := heap_alloc_new W (.cells #[v] t)
    unfold World.frozen?
    rw [this]
    rfl
theorem Cel.alloc {W : World} {b : Nat} {v : Value} (h : Cel W b v) (o : Obj) : Cel (W.alloc o) b v := h.below ((Below.refl _ _).alloc (Nat.le_refl _) _)
theorem Cel.turn {W : World} {b : Nat} {v : Value} (h : Cel W b v) {l : Nat} {o : Obj} (o' : Obj) (hl : W.heap[l]? = some o) (hc : o.isCells = false) : Cel (W.putObj l o') b v :=
  ⟨cell_kept h.1 (grownBy_putObj' W l o') (fun r e => by cases e; exact ⟨o, hl, hc⟩), (frozen_kept h.1 (grownBy_putObj' W l o') (fun r e => by cases e; exact ⟨o, hl, hc⟩)).trans h.2⟩
theorem Cel.set_same {W : World} {b : Nat} {v : Value} (h : Cel W b v) (u : Value) : Cel (W.setCell ⟨b, 0, none⟩ u) b u :=
  ⟨World.cell?_setCell_same' _ _ _ (by rw [h.1]; rfl), by rw [World.frozen?_setCell]; exact h.2⟩
theorem Cel.set_other {W : World} {b c : Nat} {v : Value} (h : Cel W b v) (hne : b ≠ c) (u : Value) : Cel (W.setCell ⟨c, 0, none⟩ u) b v :=
  ⟨(World.cell?_of_block (w := W) (a := ⟨b, 0, none⟩) (Below.heap_setCell _ _ _ _ hne)).trans h.1, by rw [World.frozen?_setCell]; exact h.2⟩
theorem RB.turn {W : World} {A : Option Addr} {n : Nat} {zs : List Int} (h : RB W A n zs) {l : Nat} {o : Obj} (o' : Obj) (hl : W.heap[l]? = some o) (hc : o.isCells = false) : RB (W.putObj l o') A n zs :=
  h.keep fun _ _ hp => cell_kept hp (grownBy_putObj' W l o') (fun r e => by cases e; exact ⟨o, hl, hc⟩)
theorem below_turn {s b l : Nat} {w W : World} {o : Obj} (h : Below s w W) (hs : s ≤ w.heap.size) (hb : s ≤ l) (o' : Obj) : Below s w (W.putObj l o') :=
  h.grown (grownBy_putObj' W l o') (Nat.le_trans hs h.size) (fun k e => by cases e; exact hb)

theorem OB.turn {b : Nat} {W : World} {v : Value} {zs : List Int} (h : OB b W v zs) {l : Nat} {o : Obj} (o' : Obj) (hl : W.heap[l]? = some o) (hc : o.isCells = false) : OB b (W.putObj l o') v zs := by
  refine ⟨⟨h.own.1, ?_⟩, h.byte⟩
  rcases h.own.2 with h0 | ⟨g, cap, cur, rfl, hg, hh, r⟩
  · exact .inl h0
  · exact .inr ⟨g, cap, cur, rfl, hg, (World.putObj_heap_other (fun e => by subst e; rw [hh] at hl; injection hl with hl; subst hl; cases hc)).trans hh, r⟩

end Go.Proofs.YtagangneoibbcaaDoor
