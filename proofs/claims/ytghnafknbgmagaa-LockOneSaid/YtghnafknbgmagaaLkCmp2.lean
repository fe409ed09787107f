/- Layer 8: the manager's compare, as slices.SortFunc asks it. -/
import Derived.Test.YtghnafknbgmagaaLkCmp
namespace Go.Proofs.Ytghnafknbgmagaa
set_option maxRecDepth 100000
set_option maxRecDepth 100000
open Go.RowKit

theorem Gs.below {w w' : World} (h : Gs w w') : Below w.heap.size w w' := by
  obtain ⟨q, os, rfl⟩ := h
  refine ⟨rfl, rfl, rfl, by simp [Sort.grow, World.drewN], fun k hk => ?_⟩
  unfold Sort.grow World.drewN
  exact Array.getElem?_append_left hk
set_option maxHeartbeats 8000000 in
theorem wkCompare (a b : Lk) (w : World) : Calls Try.prog 32 #[lkV a, lkV b] w fun e w' => e = .returned (.int .i64 (cmpB a b)) ∧ Gs w w' := by
  obtain ⟨W1, hW1⟩ : ∃ W, w.alloc (.cells #[.string a.1, .string a.2] 34) = W := ⟨_, rfl⟩
  obtain ⟨W2, hW2⟩ : ∃ W, W1.alloc (.cells #[.string b.1, .string b.2] 34) = W := ⟨_, rfl⟩
  have g1 : Gs w W1 := by rw [← hW1]; exact (Gs.refl w).alloc _
  have GG := Lib.hid (show Gs w W2 by rw [← hW2]; exact g1.alloc _)
  have q0 : W2.heap[w.heap.size]? = some (.cells #[.string a.1, .string a.2] 34 (0, 0)) := by
    rw [← hW2, Below.heap_alloc _ _ _ (by rw [← hW1]; simp), ← hW1]; exact heap_alloc_new _ _
  have q1 : W2.heap[w.heap.size + 1]? = some (.cells #[.string b.1, .string b.2] 34 (0, 0)) := by
    rw [show w.heap.size + 1 = W1.heap.size by rw [← hW1]; simp, ← hW2]; exact heap_alloc_new _ _
  have S0 : W2.cell? ⟨w.heap.size, 0, none⟩ = some (.string a.1) ∧ W2.cell? ⟨w.heap.size, 1, none⟩ = some (.string a.2) ∧ W2.cell? ⟨w.heap.size + 1, 0, none⟩ = some (.string b.1) ∧ W2.cell? ⟨w.heap.size + 1, 1, none⟩ = some (.string b.2) :=
    ⟨cell_of_row _ _ 0 _ _ _ q0, cell_of_row _ _ 1 _ _ _ q0, cell_of_row _ _ 0 _ _ _ q1, cell_of_row _ _ 1 _ _ _ q1⟩
  have S1 : ∀ o, (W2.alloc o).cell? ⟨w.heap.size, 0, none⟩ = some (.string a.1) ∧ (W2.alloc o).cell? ⟨w.heap.size, 1, none⟩ = some (.string a.2) ∧ (W2.alloc o).cell? ⟨w.heap.size + 1, 0, none⟩ = some (.string b.1) ∧ (W2.alloc o).cell? ⟨w.heap.size + 1, 1, none⟩ = some (.string b.2) := fun o => by
    have hb : Below W2.heap.size W2 (W2.alloc o) := (Below.refl _ _).alloc (Nat.le_refl _) o
    exact ⟨keep_below S0.1 hb, keep_below S0.2.1 hb, keep_below S0.2.2.1 hb, keep_below S0.2.2.2 hb⟩
  obtain ⟨x, hx⟩ : ∃ x, cmpS a.1 b.1 = x := ⟨_, rfl⟩
  obtain ⟨y, hy⟩ : ∃ y, cmpS a.2 b.2 = y := ⟨_, rfl⟩
  have C1 := Lib.hid (fun W => wstrCmp a.1 b.1 W)
  have C2 := Lib.hid (fun W => wstrCmp a.2 b.2 W)
  rw [hx] at C1
  rw [hy] at C2
  have HW1 := Lib.hid hW1
  have HW2 := Lib.hid hW2
  have HE := Lib.hid (show cmpB a b = if x ≠ 0 then x else y by unfold cmpB; rw [hx, hy])
  rw [HE.out]
  obtain ⟨z, hz⟩ : ∃ z, (if x ≠ 0 then x else y) = z := ⟨_, rfl⟩
  rw [hz]
  have C3 := Lib.hid (fun (W : World) (o : Nat) (h : W.heap[o]? = some (.cells #[.int .i64 x, .int .i64 y] 3 (0, 0))) => (wcmpOr (cell_of_row _ _ 0 _ _ _ h) (cell_of_row _ _ 1 _ _ _ h)))
  rw [hz] at C3
  clear hW1 hW2 g1 q0 q1 hx hy HE hz
  unfold lkV
  go_enter Try.func32, Try.ntmps32
  go_upto_region 1 with fail
  rw [HW1.out, HW2.out]
  go_region_held3 (fun w' => w'.cell? ⟨w.heap.size, 0, none⟩ = some (.string a.1) ∧ w'.cell? ⟨w.heap.size, 1, none⟩ = some (.string a.2) ∧ w'.cell? ⟨w.heap.size + 1, 0, none⟩ = some (.string b.1) ∧ w'.cell? ⟨w.heap.size + 1, 1, none⟩ = some (.string b.2))
    (first | exact S0 | exact S1 _)
    (first
      | (go_at_call_of 43 (Value.string a.1); go_loud (refine (C1.out _).mono ?_; rintro e w1 ⟨rfl, hw⟩; replace hw := hw.symm; subst hw))
      | (go_at_call_of 43 (Value.string a.2); go_loud (refine (C2.out _).mono ?_; rintro e w1 ⟨rfl, hw⟩; replace hw := hw.symm; subst hw))
      | (go_at_call 42; go_loud (refine (C3.out _ _ (by exact heap_alloc_new W2 _)).mono ?_; rintro e w3 ⟨rfl, hw⟩; replace hw := hw.symm; subst hw)))
  all_goals
    go_wp2
    go_ret
    exact ⟨rfl, by first | exact GG.out.alloc _ | exact GG.out.drew.alloc _⟩
end Go.Proofs.Ytghnafknbgmagaa
