/- The text of -7. -/
import Derived.Test.YtiappioofagpgaaDoorTBegun
import Derived.Test.YtiappioofagpgaaDoorEqual
import Derived.Test.YtiappioofagpgaaDoorOwnRow
import Derived.Laws.BytesString
namespace Go.Proofs.YtiappioofagpgaaDoor
open Go.RowKit

/-- Block g is just the bytes zs, of the type T. -/
def RowT (T : TypeId) (w : World) (g : Nat) (zs : List Int) : Prop := w.heap[g]? = some (.cells (zs.map (Value.int .u8)).toArray T (0, 0))
theorem RowT.cell {T : TypeId} {w : World} {g : Nat} {zs : List Int} (h : RowT T w g zs) {j : Nat} (hj : j < zs.length) : w.cell? ⟨g, j, none⟩ = some (.int .u8 (zs.getD j 0)) := by
  rw [cell_of_row w g j _ T (0, 0) h]
  simp [List.getD_eq_getElem?_getD, List.getElem?_eq_getElem hj]
theorem RowT.frozen {T : TypeId} {w : World} {g : Nat} {zs : List Int} (h : RowT T w g zs) (j : Nat) : w.frozen? ⟨g, j, none⟩ = false := by
  unfold RowT at h
  simp [World.frozen?, h]
theorem RowT.set_ {T : TypeId} {w : World} {g : Nat} {zs : List Int} (h : RowT T w g zs) (j : Nat) (z : Int) : RowT T (w.setCell ⟨g, j, none⟩ (.int .u8 z)) g (zs.set j z) := by
  unfold RowT at h ⊢
  have h2 : ((zs.map (Value.int .u8)).toArray).setIfInBounds j (.int .u8 z) = ((zs.set j z).map (Value.int .u8)).toArray := by
    apply Array.ext'
    simp [List.map_set]
  simp [World.setCell, Array.getElem?_modify, h, h2]

set_option maxHeartbeats 1000000 in
set_option maxRecDepth 100000 in
theorem len64_7 (w : World) : Calls Tryd.prog 47 #[.int .u64 7] w fun e w' => e = .returned (.int .i64 3) ∧ w = w' := by
  go_enter Tryd.func47, Tryd.ntmps47
  go_wp2
  go_ret
  exact ⟨by kernel_rfl, rfl⟩
set_option maxHeartbeats 1000000 in
set_option maxRecDepth 100000 in
theorem log10_3 (w : World) : Calls Tryd.prog 46 #[.int .i64 3] w fun e w' => e = .returned (.int .i64 0) ∧ w = w' := by
  go_enter Tryd.func46, Tryd.ntmps46
  go_wp2
  go_ret
  exact ⟨rfl, rfl⟩
set_option maxHeartbeats 1000000 in
set_option maxRecDepth 100000 in
theorem bool2_yes (w : World) : Calls Tryd.prog 48 #[.bool true] w fun e w' => e = .returned (.int .i64 1) ∧ w = w' := by
  go_enter Tryd.func48, Tryd.ntmps48
  go_wp2
  go_ret
  exact ⟨rfl, rfl⟩
set_option maxHeartbeats 1000000 in
set_option maxRecDepth 100000 in
theorem digits_7 (w : World) (h : w.cell? ⟨1, 0, none⟩ = some (.int .u64 1)) : Calls Tryd.prog 42 #[.int .u64 7] w fun e w' => e = .returned (.int .i64 1) ∧ w = w' := by
  go_enter Tryd.func42, Tryd.ntmps42
  go_wp2_with (first | (go_at_call 47; refine (len64_7 _).mono ?_; rintro e w' ⟨rfl, rfl⟩) | (go_at_call 46; refine (log10_3 _).mono ?_; rintro e w' ⟨rfl, rfl⟩) | (go_at_call 48; refine (bool2_yes _).mono ?_; rintro e w' ⟨rfl, rfl⟩))
  go_ret
  exact ⟨rfl, rfl⟩
set_option maxHeartbeats 1000000 in
set_option maxRecDepth 100000 in
theorem base10_7 (g o c : Nat) (z : Int) (w : World) (h : w.cell? ⟨g, o, none⟩ = some (.int .u8 z)) (hf : w.frozen? ⟨g, o, none⟩ = false) :
    Calls Tryd.prog 43 #[.slice (some ⟨g, o, none⟩) 1 c, .int .u64 7] w fun e w' => e = .returned (.tuple #[]) ∧ w' = w.setCell ⟨g, o, none⟩ (.int .u8 55) := by
  go_enter Tryd.func43, Tryd.ntmps43
  go_wp2
  refine wp_loop_rounds 1 ?_
  rw [rounds_succ]
  go_wp2
  go_end0
  exact ⟨rfl, rfl⟩

set_option maxHeartbeats 2000000 in
set_option maxRecDepth 100000 in
theorem text_n7 (w : World) (h : w.cell? ⟨1, 0, none⟩ = some (.int .u64 1)) : Calls Tryd.prog 36 #[.int .i64 (-7), .int .i64 10] w fun e w' => e = .returned (.string ⟨#[45, 55]⟩) ∧ Below w.heap.size w w' := by
  go_enter Tryd.func36, Tryd.ntmps36
  go_wp2_with fail
  refine (digits_7 _ (by simpa using keep_below h ((Below.refl _ _).alloc (Nat.le_refl _) _))).mono ?_
  rintro e w1 ⟨rfl, rfl⟩
  go_wp2_with fail
  have hrow : RowT 64 (w.alloc (.cells #[.int .u8 0, .int .u8 0, .int .u8 0, .int .u8 0, .int .u8 0, .int .u8 0, .int .u8 0, .int .u8 0, .int .u8 0, .int .u8 0, .int .u8 0, .int .u8 0, .int .u8 0, .int .u8 0, .int .u8 0, .int .u8 0, .int .u8 0, .int .u8 0, .int .u8 0, .int .u8 0, .int .u8 0, .int .u8 0, .int .u8 0, .int .u8 0] 64)) w.heap.size (List.replicate 24 0) := heap_alloc_new w _
  have hb := (Below.refl w.heap.size w).alloc (Nat.le_refl _) (.cells #[.int .u8 0, .int .u8 0, .int .u8 0, .int .u8 0, .int .u8 0, .int .u8 0, .int .u8 0, .int .u8 0, .int .u8 0, .int .u8 0, .int .u8 0, .int .u8 0, .int .u8 0, .int .u8 0, .int .u8 0, .int .u8 0, .int .u8 0, .int .u8 0, .int .u8 0, .int .u8 0, .int .u8 0, .int .u8 0, .int .u8 0, .int .u8 0] 64)
  generalize w.alloc (.cells #[.int .u8 0, .int .u8 0, .int .u8 0, .int .u8 0, .int .u8 0, .int .u8 0, .int .u8 0, .int .u8 0, .int .u8 0, .int .u8 0, .int .u8 0, .int .u8 0, .int .u8 0, .int .u8 0, .int .u8 0, .int .u8 0, .int .u8 0, .int .u8 0, .int .u8 0, .int .u8 0, .int .u8 0, .int .u8 0, .int .u8 0, .int .u8 0] 64) = W at hrow hb ⊢
  refine (base10_7 w.heap.size 1 23 0 W (hrow.cell (j := 1) (by simp)) (hrow.frozen 1)).mono ?_
  rintro e W2 ⟨rfl, hW2⟩
  have r2 := hrow.set_ 1 55
  rw [← hW2] at r2
  have hb2 : Below w.heap.size w W2 := by rw [hW2]; exact hb.setCell (by simp) _
  have c0 := r2.cell (j := 0) (by simp)
  have f0 := r2.frozen 0
  clear hW2 hb hrow
  have R3 := r2.set_ 0 45
  have hb3 : Below w.heap.size w (W2.setCell ⟨w.heap.size, 0, none⟩ (.int .u8 45)) := hb2.setCell (by simp) _
  have q : RB (W2.setCell ⟨w.heap.size, 0, none⟩ (.int .u8 45)) (some ⟨w.heap.size, 0, none⟩) 2 [45, 55] := by
    have := (RB.block (zs := ((List.replicate 24 (0 : Int)).set 1 55).set 0 45) (by decide) R3).take (k := 2) (by decide)
    exact this
  have hcv := rb_str q 24
  rw [show strOfNums [45, 55] = ⟨#[45, 55]⟩ from rfl] at hcv
  clear R3 q r2 hb2
  go_wp2
  go_ret
  exact ⟨rfl, hb3⟩

set_option maxHeartbeats 1000000 in
theorem stext_n7 (w : World) (h : w.cell? ⟨1, 0, none⟩ = some (.int .u64 1)) : Calls Tryd.prog 31 #[.int .i64 (-7), .int .i64 10] w fun e w' => e = .returned (.string ⟨#[45, 55]⟩) ∧ Below w.heap.size w w' := by
  have T := Lib.hid (text_n7 w h)
  clear h
  go_enter Tryd.func31, Tryd.ntmps31
  go_wp2_with fail
  refine T.out.mono ?_
  rintro e w1 ⟨rfl, hb⟩
  go_wp2
  go_ret
  exact ⟨rfl, hb⟩

set_option maxHeartbeats 1000000 in
theorem itext_n7 (w : World) (h : w.cell? ⟨1, 0, none⟩ = some (.int .u64 1)) : Calls Tryd.prog 23 #[.int .i64 (-7)] w fun e w' => e = .returned (.string ⟨#[45, 55]⟩) ∧ Below w.heap.size w w' := by
  have T := Lib.hid (stext_n7 w h)
  clear h
  go_enter Tryd.func23, Tryd.ntmps23
  go_wp2_with fail
  refine T.out.mono ?_
  rintro e w1 ⟨rfl, hb⟩
  go_wp2
  go_ret
  exact ⟨rfl, hb⟩

set_option maxHeartbeats 1000000 in
theorem vtext_n7 (w : World) (h : w.cell? ⟨1, 0, none⟩ = some (.int .u64 1)) : Calls Tryd.prog 14 #[vA 1 (-7) false ⟨#[]⟩ 0 0] w fun e w' => e = .returned (.tuple #[.string ⟨#[45, 55]⟩, .int .i64 0]) ∧ Below w.heap.size w w' := by
  have T := Lib.hid itext_n7
  have K := Lib.hid fun W => check_int (-7) W
  have hw1 := (Below.refl w.heap.size w).alloc (Nat.le_refl _) (.cells #[.int .i64 1, .int .i64 (-7), .bool false, .string ⟨#[]⟩, .complex .f64 0 0] 34)
  have H := Lib.hid h
  clear h
  unfold vA at K ⊢
  go_enter Tryd.func14, Tryd.ntmps14
  go_wp2_with fail
  refine (K.out _).mono ?_
  rintro e w1 ⟨rfl, hb1⟩
  have B := below_next hw1 hb1
  have f0 : w1.cell? ⟨w.heap.size, 0, none⟩ = some (.int .i64 1) := keep_below (by simp) hb1
  have f1 : w1.cell? ⟨w.heap.size, 1, none⟩ = some (.int .i64 (-7)) := keep_below (by simp) hb1
  clear hb1 hw1
  go_wp2_with fail
  refine (T.out _ (keep_below H.out B)).mono ?_
  rintro e w2 ⟨rfl, hb2⟩
  go_wp2
  go_ret2
  exact ⟨rfl, below_next B hb2⟩

set_option maxHeartbeats 2000000 in
theorem begun_yes (w : World) (h : w.cell? ⟨1, 0, none⟩ = some (.int .u64 1)) : Calls Tryd.prog 9 #[] w fun e w' => e = .returned (.bool true) ∧ Below w.heap.size w w' := by
  have T := Lib.hid vtext_n7
  have K0 := Lib.hid check_none
  have K2 := Lib.hid check_bool
  have M1 := Lib.hid int_makes
  have M2 := Lib.hid bool_makes
  have H := Lib.hid h
  clear h
  unfold vA at T K0 K2 M1 M2
  go_enter Tryd.func9, Tryd.ntmps9
  go_wp2_with fail
  refine (M1.out _ _).mono ?_
  rintro e w1 ⟨rfl, B⟩
  go_wp2_with fail
  refine (T.out _ (keep_below H.out B)).mono ?_
  rintro e w2 ⟨rfl, hb2⟩
  have B := below_next B hb2
  clear hb2
  go_wp2_with fail
  refine (M2.out _ _).mono ?_
  rintro e w3 ⟨rfl, hb2⟩
  have B := below_next B hb2
  clear hb2
  go_wp2_with fail
  refine (K2.out _ _).mono ?_
  rintro e w4 ⟨rfl, hb2⟩
  have B := below_next B hb2
  clear hb2
  go_wp2_with fail
  refine (K0.out _).mono ?_
  rintro e w5 ⟨rfl, hb2⟩
  have B := below_next B hb2
  clear hb2
  go_wp2
  go_ret
  exact ⟨rfl, B⟩
end Go.Proofs.YtiappioofagpgaaDoor
