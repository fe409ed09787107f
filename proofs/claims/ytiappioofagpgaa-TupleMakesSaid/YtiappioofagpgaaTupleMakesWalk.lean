/- The walk of TupleMakes. -/
import Derived.Test.YtiappioofagpgaaTMakes
import Derived.Test.YtiappioofagpgaaOpen
import Derived.Deep.RegionHeld3
namespace Go.Proofs.Ytiappioofagpgaa
open Go.RowKit

set_option maxHeartbeats 4000000 in
set_option maxRecDepth 100000 in
theorem walk_TupleMakes (a0 a1 a2 : Int) (a3 : ByteArray) (a4 : Bool) (a5 : Int) (w : World) (ha0 : -9223372036854775808 ≤ a0 ∧ a0 ≤ 9223372036854775807) (ha1 : -9223372036854775808 ≤ a1 ∧ a1 ≤ 9223372036854775807) (ha2 : -9223372036854775808 ≤ a2 ∧ a2 ≤ 9223372036854775807) (ha3 : a3.size ≤ 140737488351232) (ha5 : -9223372036854775808 ≤ a5 ∧ a5 ≤ 9223372036854775807) :
    Calls Try.prog 3 #[.int .i64 a0, .int .i64 a1, .int .i64 a2, .string a3, .bool a4, .int .i64 a5] w fun e w' => e = .returned (.bool true) ∧ Below w.heap.size w w' := by
  have hst := run_store_complex Try.prog
  have BY := Lib.hid fun k n y s a b W (h : Ok64 a) (h' : Ok64 b) => bits_yes k n y s a b W h.1 h'.1 h.2 h'.2
  have Z1 := Lib.hid fun W => tzero a5 W
  have Z2 := Lib.hid fun W => rzero a5 W
  have M1 := Lib.hid fun W => int_makes a0 W
  have M2 := Lib.hid fun W => bool_makes a4 W
  have M3 := Lib.hid fun W => bytes_makes a3 W
  have M4 := Lib.hid fun W => point_makes a1 a2 W
  unfold vA at BY Z1 Z2 M1 M2 M3 M4
  have OKI := Lib.hid ok_int
  clear ha0 ha1 ha2 ha3 ha5
  go_enter Try.func3, Try.ntmps3
  go_wp2_with fail
  refine (Z1.out _).mono ?_
  rintro e w1 ⟨rfl, hb1⟩
  go_wp2_with fail
  refine (Z2.out _).mono ?_
  rintro e w2 ⟨rfl, hb2⟩
  go_wp2
  generalize hA : w1.alloc (.cells #[.int .i64 (zeroK a5), .int .i64 0, .bool false, .string ⟨#[]⟩, .complex .f64 0 0] 24) = WA at hb2
  have F0 : WA.heap[w1.heap.size]? = some (.cells #[.int .i64 (zeroK a5), .int .i64 0, .bool false, .string ⟨#[]⟩, .complex .f64 0 0] 24 (0, 0)) := by subst hA; exact heap_alloc_new w1 _
  have hz : w1.heap.size < WA.heap.size := by subst hA; simp
  have HA : Below w.heap.size w WA := by subst hA; exact hb1.alloc hb1.size _
  clear hA hb1
  have F1 : w2.heap[w1.heap.size]? = some (.cells #[.int .i64 (zeroK a5), .int .i64 0, .bool false, .string ⟨#[]⟩, .complex .f64 0 0] 24 (0, 0)) := (hb2.block _ hz).trans F0
  have H2 := below_next HA hb2
  have hz2 : w1.heap.size < w2.heap.size := Nat.lt_of_lt_of_le hz hb2.size
  generalize hW : (w2.alloc (.cells #[.int .i64 (zeroK a5), .int .i64 0, .bool false, .string ⟨#[]⟩, .complex .f64 0 0] 24)).alloc (.cells #[.int .i64 4, .int .i64 0, .bool false, .string ⟨#[]⟩, .complex .f64 (floatOfInt .f64 a1) (floatOfInt .f64 a2)] 24) = W
  have f0 : W.cell? ⟨w1.heap.size, 0, none⟩ = some (.int .i64 (zeroK a5)) := by subst hW; rw [cell_of_row _ _ 0 _ 24 (0, 0) (((heap_alloc_old (w2.alloc _) _ (by simp; omega)).trans (heap_alloc_old w2 _ hz2)).trans F1)]; rfl
  have f1 : W.cell? ⟨w1.heap.size, 1, none⟩ = some (.int .i64 0) := by subst hW; rw [cell_of_row _ _ 1 _ 24 (0, 0) (((heap_alloc_old (w2.alloc _) _ (by simp; omega)).trans (heap_alloc_old w2 _ hz2)).trans F1)]; rfl
  have f2 : W.cell? ⟨w1.heap.size, 2, none⟩ = some (.bool false) := by subst hW; rw [cell_of_row _ _ 2 _ 24 (0, 0) (((heap_alloc_old (w2.alloc _) _ (by simp; omega)).trans (heap_alloc_old w2 _ hz2)).trans F1)]; rfl
  have f3 : W.cell? ⟨w1.heap.size, 3, none⟩ = some (.string ⟨#[]⟩) := by subst hW; rw [cell_of_row _ _ 3 _ 24 (0, 0) (((heap_alloc_old (w2.alloc _) _ (by simp; omega)).trans (heap_alloc_old w2 _ hz2)).trans F1)]; rfl
  have f4 : W.cell? ⟨w1.heap.size, 4, none⟩ = some (.complex .f64 0 0) := by subst hW; rw [cell_of_row _ _ 4 _ 24 (0, 0) (((heap_alloc_old (w2.alloc _) _ (by simp; omega)).trans (heap_alloc_old w2 _ hz2)).trans F1)]; rfl
  have g0 : W.cell? ⟨w2.heap.size, 0, none⟩ = some (.int .i64 (zeroK a5)) := by subst hW; simp
  have g1 : W.cell? ⟨w2.heap.size, 1, none⟩ = some (.int .i64 0) := by subst hW; simp
  have g2 : W.cell? ⟨w2.heap.size, 2, none⟩ = some (.bool false) := by subst hW; simp
  have g3 : W.cell? ⟨w2.heap.size, 3, none⟩ = some (.string ⟨#[]⟩) := by subst hW; simp
  have g4 : W.cell? ⟨w2.heap.size, 4, none⟩ = some (.complex .f64 0 0) := by subst hW; simp
  have h0 : W.cell? ⟨(w2.heap.size + 1), 0, none⟩ = some (.int .i64 4) := by subst hW; simp
  have h1 : W.cell? ⟨(w2.heap.size + 1), 1, none⟩ = some (.int .i64 0) := by subst hW; simp
  have h2 : W.cell? ⟨(w2.heap.size + 1), 2, none⟩ = some (.bool false) := by subst hW; simp
  have h3 : W.cell? ⟨(w2.heap.size + 1), 3, none⟩ = some (.string ⟨#[]⟩) := by subst hW; simp
  have h4 : W.cell? ⟨(w2.heap.size + 1), 4, none⟩ = some (.complex .f64 (floatOfInt .f64 a1) (floatOfInt .f64 a2)) := by subst hW; simp
  have H3 : Below w.heap.size w W := by subst hW; exact (H2.alloc H2.size _).alloc (by have := H2.size; simp; omega) _
  clear hW F0 F1 H2 HA hb2 hz hz2
  have B : Below W.heap.size W W.drew := (Below.refl _ W).drew
  go_region_held3 (fun w' => w'.cell? ⟨w1.heap.size, 0, none⟩ = some (.int .i64 (zeroK a5)) ∧ w'.cell? ⟨w1.heap.size, 1, none⟩ = some (.int .i64 0) ∧ w'.cell? ⟨w1.heap.size, 2, none⟩ = some (.bool false) ∧ w'.cell? ⟨w1.heap.size, 3, none⟩ = some (.string ⟨#[]⟩) ∧ w'.cell? ⟨w1.heap.size, 4, none⟩ = some (.complex .f64 0 0) ∧ w'.cell? ⟨w2.heap.size, 0, none⟩ = some (.int .i64 (zeroK a5)) ∧ w'.cell? ⟨w2.heap.size, 1, none⟩ = some (.int .i64 0) ∧ w'.cell? ⟨w2.heap.size, 2, none⟩ = some (.bool false) ∧ w'.cell? ⟨w2.heap.size, 3, none⟩ = some (.string ⟨#[]⟩) ∧ w'.cell? ⟨w2.heap.size, 4, none⟩ = some (.complex .f64 0 0) ∧ w'.cell? ⟨(w2.heap.size + 1), 0, none⟩ = some (.int .i64 4) ∧ w'.cell? ⟨(w2.heap.size + 1), 1, none⟩ = some (.int .i64 0) ∧ w'.cell? ⟨(w2.heap.size + 1), 2, none⟩ = some (.bool false) ∧ w'.cell? ⟨(w2.heap.size + 1), 3, none⟩ = some (.string ⟨#[]⟩) ∧ w'.cell? ⟨(w2.heap.size + 1), 4, none⟩ = some (.complex .f64 (floatOfInt .f64 a1) (floatOfInt .f64 a2)))
    (first | exact ⟨f0, f1, f2, f3, f4, g0, g1, g2, g3, g4, h0, h1, h2, h3, h4⟩ | exact ⟨keep_below f0 B, keep_below f1 B, keep_below f2 B, keep_below f3 B, keep_below f4 B, keep_below g0 B, keep_below g1 B, keep_below g2 B, keep_below g3 B, keep_below g4 B, keep_below h0 B, keep_below h1 B, keep_below h2 B, keep_below h3 B, keep_below h4 B⟩)
    (first
      | (go_at_call 6; refine (BY.out _ _ _ _ _ _ _ (by first | exact ok_zero | exact OKI.out _) (by first | exact ok_zero | exact OKI.out _)).mono ?_; rintro e w9 ⟨rfl, hb9⟩; have B := below_next B hb9; clear hb9)
      | (go_at_call 7; refine (M1.out _).mono ?_; rintro e w9 ⟨rfl, hb9⟩; have B := below_next B hb9; clear hb9)
      | (go_at_call 8; refine (M2.out _).mono ?_; rintro e w9 ⟨rfl, hb9⟩; have B := below_next B hb9; clear hb9)
      | (go_at_call 9; refine (M3.out _).mono ?_; rintro e w9 ⟨rfl, hb9⟩; have B := below_next B hb9; clear hb9)
      | (go_at_call 10; refine (M4.out _).mono ?_; rintro e w9 ⟨rfl, hb9⟩; have B := below_next B hb9; clear hb9))
  all_goals
    go_wp2
    go_ret
    exact ⟨rfl, below_next H3 B⟩
end Go.Proofs.Ytiappioofagpgaa
