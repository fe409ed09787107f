/- A variable of the call's own in a block of its own; the marks of loops that are over. -/
import Derived.Test.YtlhpoliiojekeaaOver
import Derived.Test.YtlhpoliiojekeaaVL
import Derived.RangeFuncNested
import Derived.RangeFuncBound
import Derived.RangeFuncCalls
import Derived.RangeFuncLeaves
import Derived.Shelf.Abstract
import Derived.OwnWalkIn
import Derived.TacticsInMore
import Derived.LoopNIn
import Derived.LoopIn
namespace Go.Proofs.Ytlhpoliiojekeaa
open Go.RowKit

/-- Block b is a cell of one value that may be written. -/
def Cel (W : World) (b : Nat) (v : Value) : Prop := W.cell? ⟨b, 0, none⟩ = some v ∧ W.frozen? ⟨b, 0, none⟩ = false
theorem Cel.lt {W : World} {b : Nat} {v : Value} (h : Cel W b v) : b < W.heap.size := World.block_lt_of_cell? W ⟨b, 0, none⟩ h.1
theorem Cel.below {W W' : World} {b : Nat} {v : Value} (h : Cel W b v) (hb : Below W.heap.size W W') : Cel W' b v :=
  ⟨keep_below h.1 hb, (hb.frozen (p := ⟨b, 0, none⟩) h.lt).trans h.2⟩
theorem Cel.new (W : World) (v : Value) (t : TypeId) : Cel (W.alloc (.cells #[v] t)) W.heap.size v := by
  refine ⟨?_, ?_⟩
  · rw [cell_of_row (W.alloc (.cells #[v] t)) W.heap.size 0 #[v] t (0, 0) (heap_alloc_new W _)]
    simp
  · have := heap_alloc_new W (.cells #[v] t)
    unfold World.frozen?
    rw [this]
    rfl
theorem Cel.alloc {W : World} {b : Nat} {v : Value} (h : Cel W b v) (o : Obj) : Cel (W.alloc o) b v := h.below ((Below.refl _ _).alloc (Nat.le_refl _) _)
theorem Cel.turn {W : World} {b : Nat} {v : Value} (h : Cel W b v) {l : Nat} {o : Obj} (o' : Obj) (hl : W.heap[l]? = some o) (hc : o.isCells = false) : Cel (W.putObj l o') b v :=
  ⟨cell_kept h.1 (grownBy_putObj' W l o') (fun r e => by cases e; exact ⟨o, hl, hc⟩), (frozen_kept h.1 (grownBy_putObj' W l o') (fun r e => by cases e; exact ⟨o, hl, hc⟩)).trans h.2⟩
theorem Cel.set_same {W : World} {b : Nat} {v : Value} (h : Cel W b v) (u : Value) : Cel (W.setCell ⟨b, 0, none⟩ u) b u :=
  ⟨World.cell?_setCell_same' _ _ _ (by rw [h.1]; rfl), by rw [World.frozen?_setCell]; exact h.2⟩
theorem Cel.set_other {W : World} {b c : Nat} {v : Value} (h : Cel W b v) (hne : b ≠ c) (u : Value) : Cel (W.setCell ⟨c, 0, none⟩ u) b v :=
  ⟨(World.cell?_of_block (w := W) (a := ⟨b, 0, none⟩) (Below.heap_setCell _ _ _ _ hne)).trans h.1, by rw [World.frozen?_setCell]; exact h.2⟩
theorem below_turn {s b l : Nat} {w W : World} {o : Obj} (h : Below s w W) (hs : s ≤ w.heap.size) (hb : s ≤ l) (o' : Obj) : Below s w (W.putObj l o') :=
  h.grown (grownBy_putObj' W l o') (Nat.le_trans hs h.size) (fun k e => by cases e; exact hb)

/-- The marks of loops that are over lead to no call. -/
def markF (D : Nat) : Deferred := { target := .collected D, args := #[] }
theorem leaves_marks {F : Fence} {n : Nat} {P : Program} {fn : Func} {tmps : Array Value} {R : Ending → World → Prop} (T : World → Prop) (s : Nat)
    (hT : ∀ W D, T W → s ≤ D → W.heap[D]? = some (.deferred (some [])) → T (W.putObj D (.deferred none))) (hR : ∀ W, T W → LeavesInM F n P fn tmps R [] .returning W) :
    ∀ (Ds : List Nat) (W : World), Ds.Nodup → (∀ D, D ∈ Ds → s ≤ D ∧ W.heap[D]? = some (.deferred (some []))) → T W → LeavesInM F n P fn tmps R (Ds.map markF) .returning W := by
  intro Ds
  induction Ds with
  | nil => exact fun W _ _ h => hR W h
  | cons D Ds ih =>
    intro W hn hd ht
    obtain ⟨h1, h2⟩ := List.nodup_cons.1 hn
    obtain ⟨hs, hD⟩ := hd D (List.mem_cons_self ..)
    refine ⟨by simp, .inl ⟨D, _, rfl, run_takeDeferred hD, ih _ h2 (fun E hE => ⟨(hd E (List.mem_cons_of_mem _ hE)).1, ?_⟩) (hT _ _ ht hs hD)⟩⟩
    rw [World.putObj_heap_other (fun e => h1 (by rw [← e]; exact hE))]
    exact (hd E (List.mem_cons_of_mem _ hE)).2

end Go.Proofs.Ytlhpoliiojekeaa
