/- Layer 8: the law's begun. -/
import Derived.Test.YtghnafknbgmagaaLkStep2
namespace Go.Proofs.Ytghnafknbgmagaa
set_option maxRecDepth 100000
set_option maxRecDepth 100000
open Go.RowKit Go.Maps Go.ChangeMaps Go.MapKept

theorem begun_t1 (l : Lk) : takeP 2 [] 1 0 0 l = (0, [(l, 1)]) := by simp [takeP, holderP]
theorem begun_t2 (l : Lk) : takeP 2 [(l, 1)] 2 0 0 l = (80, [(l, 1)]) := by simp [takeP, holderP, lkEq_is]
/-- Out of a map that is new. -/
theorem Out.fresh {a b c : World} {r n : Nat} (h : Below n a b) (hr : n ≤ r) (o : Out (fun k => k = r) b c) (hn : n ≤ b.heap.size) : Below n a c :=
  h.trans (o.below hn fun i hi e => by omega)

set_option maxHeartbeats 4000000 in
theorem wbegun8 (w : World) : Calls Try.prog 10 #[] w fun e w' => e = .returned (.bool true) ∧ Below w.heap.size w w' := by
  have hSz : Sz (⟨#[116]⟩, ⟨#[107]⟩) := ⟨by decide, by decide⟩
  have CN := Lib.hid (wkNew (w := w) (most := 2) (by omega))
  have T1 := begun_t1 (⟨#[116]⟩, ⟨#[107]⟩)
  have T2 := begun_t2 (⟨#[116]⟩, ⟨#[107]⟩)
  have C1 := Lib.hid (fun W m r (M : MG W m r 2 []) => wkTake M hSz 1 0 0 (by decide))
  have C2 := Lib.hid (fun W m r (M : MG W m r 2 [((⟨#[116]⟩, ⟨#[107]⟩), 1)]) => wkTake M hSz 2 0 0 (by decide))
  have C3 := Lib.hid (fun W m r (M : MG W m r 2 [((⟨#[116]⟩, ⟨#[107]⟩), 1)]) => wkLen M)
  rw [T1] at C1
  rw [T2] at C2
  unfold lkV at C1 C2
  clear hSz T1 T2
  go_enter Try.func10, Try.ntmps10
  go_upto_region 4 with (go_at_call 8; go_loud (refine CN.out.mono ?_; rintro e w1 ⟨rfl, m1, b1⟩; have M1 := Lib.hid m1; have B1 := Lib.hid b1; clear m1 b1))
  obtain ⟨W2, hW2⟩ : ∃ W, w1.alloc (.cells #[.string ⟨#[116]⟩, .string ⟨#[107]⟩] 34) = W := ⟨_, rfl⟩
  have HW2 := Lib.hid hW2
  have b2 : Below w1.heap.size w1 W2 := by rw [← hW2]; exact (Below.refl _ _).alloc (Nat.le_refl _) _
  have n0 : W2.heap[w1.heap.size]? = some (.cells #[.string ⟨#[116]⟩, .string ⟨#[107]⟩] 34 (0, 0)) := by rw [← hW2]; exact heap_alloc_new _ _
  have B2 := Lib.hid (below_next B1.out b2)
  have M2 := Lib.hid (M1.out.below b2)
  have x1 : W2.cell? ⟨w1.heap.size, 0, none⟩ = some (.string ⟨#[116]⟩) := cell_of_row _ _ 0 _ _ _ n0
  have x2 : W2.cell? ⟨w1.heap.size, 1, none⟩ = some (.string ⟨#[107]⟩) := cell_of_row _ _ 1 _ _ _ n0
  have HR := Lib.hid (show w1.heap.size ≠ w.heap.size by have := M1.out.map.lt; omega)
  clear hW2 b2 n0
  go_upto_region 5 with fail
  rw [HW2.out]
  go_wp2_with (first
    | (go_at_call 12; go_loud (refine (C1.out _ _ _ M2.out).mono ?_; rintro e w3 ⟨rfl, m3, o3⟩; have M3 := Lib.hid m3; have B3 := Lib.hid (Out.fresh B2.out (Nat.le_refl _) o3 B2.out.size); have y1 : w3.cell? ⟨w1.heap.size, 0, none⟩ = some (.string ⟨#[116]⟩) := o3.cell x1 HR.out; have y2 : w3.cell? ⟨w1.heap.size, 1, none⟩ = some (.string ⟨#[107]⟩) := o3.cell x2 HR.out; clear m3 o3 C1))
    | (go_at_call 12; go_loud (refine (C2.out _ _ _ M3.out).mono ?_; rintro e w4 ⟨rfl, m4, o4⟩; have M4 := Lib.hid m4; have B4 := Lib.hid (Out.fresh B3.out (Nat.le_refl _) o4 B3.out.size); clear m4 o4 C2))
    | (go_at_call 15; go_loud (refine (C3.out _ _ _ M4.out).mono ?_; rintro e w5 ⟨rfl, hw⟩; replace hw := hw.symm; subst hw)))
  go_ret
  exact ⟨rfl, B4.out⟩
end Go.Proofs.Ytghnafknbgmagaa
