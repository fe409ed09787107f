/- The simplest answers: Check of three values, the text of -7. -/
import Derived.Test.YtiappioofagpgaaDoorTMakes
import Derived.Laws.BytesString
namespace Go.Proofs.YtiappioofagpgaaDoor
open Go.RowKit

theorem eql_zero (w : World) : (binOp .eql 34 (.agg #[.int .i64 0, .int .i64 0, .bool false, .string ⟨#[]⟩, .complex .f64 0 0]) (.agg #[.int .i64 0, .int .i64 0, .bool false, .string ⟨#[]⟩, .complex .f64 0 0])).run Tryd.prog w = .ok (.bool true) w := by kernel_rfl

set_option maxHeartbeats 400000 in
theorem kind_int (n : Int) (w : World) : Calls Tryd.prog 26 #[vA 1 n false ⟨#[]⟩ 0 0] w fun e w' => e = .returned (.bool true) ∧ Below w.heap.size w w' := by
  have hst := run_store_complex Tryd.prog
  have hz := eql_zero
  unfold vA
  go_enter Tryd.func26, Tryd.ntmps26
  go_wp2
  go_ret
  exact ⟨rfl, by
    repeat (first | exact (Below.refl _ _).alloc (Nat.le_refl _) _ | refine Below.setCell ?_ (by simp) _ | refine Below.alloc ?_ (by simp) _)⟩

set_option maxHeartbeats 400000 in
theorem kind_bool (y : Bool) (w : World) : Calls Tryd.prog 26 #[vA 2 0 y ⟨#[]⟩ 0 0] w fun e w' => e = .returned (.bool true) ∧ Below w.heap.size w w' := by
  have hst := run_store_complex Tryd.prog
  have hz := eql_zero
  unfold vA
  go_enter Tryd.func26, Tryd.ntmps26
  go_wp2
  go_ret
  exact ⟨rfl, by
    repeat (first | exact (Below.refl _ _).alloc (Nat.le_refl _) _ | refine Below.setCell ?_ (by simp) _ | refine Below.alloc ?_ (by simp) _)⟩

set_option maxHeartbeats 400000 in
theorem kind_none  (w : World) : Calls Tryd.prog 26 #[vA 0 0 false ⟨#[]⟩ 0 0] w fun e w' => e = .returned (.bool false) ∧ Below w.heap.size w w' := by
  have hst := run_store_complex Tryd.prog
  have hz := eql_zero
  unfold vA
  go_enter Tryd.func26, Tryd.ntmps26
  go_wp2
  go_ret
  exact ⟨rfl, by
    repeat (first | exact (Below.refl _ _).alloc (Nat.le_refl _) _ | refine Below.setCell ?_ (by simp) _ | refine Below.alloc ?_ (by simp) _)⟩

set_option maxHeartbeats 400000 in
theorem check_int (n : Int) (w : World) : Calls Tryd.prog 16 #[vA 1 n false ⟨#[]⟩ 0 0] w fun e w' => e = .returned (.int .i64 0) ∧ Below w.heap.size w w' := by
  have K := Lib.hid fun W => kind_int n W
  have hw1 := (Below.refl w.heap.size w).alloc (Nat.le_refl _) (.cells #[.int .i64 1, .int .i64 n, .bool false, .string ⟨#[]⟩, .complex .f64 0 0] 34)
  unfold vA at K ⊢
  go_enter Tryd.func16, Tryd.ntmps16
  go_wp2_with fail
  refine (K.out _).mono ?_
  rintro e w1 ⟨rfl, hb1⟩
  have B := below_next hw1 hb1
  have f0 : w1.cell? ⟨w.heap.size, 0, none⟩ = some (.int .i64 1) := keep_below (by simp) hb1
  have f3 : w1.cell? ⟨w.heap.size, 3, none⟩ = some (.string ⟨#[]⟩) := keep_below (by simp) hb1
  clear hb1 hw1
  go_wp2
  go_ret
  exact ⟨rfl, B⟩

set_option maxHeartbeats 400000 in
theorem check_bool (y : Bool) (w : World) : Calls Tryd.prog 16 #[vA 2 0 y ⟨#[]⟩ 0 0] w fun e w' => e = .returned (.int .i64 0) ∧ Below w.heap.size w w' := by
  have K := Lib.hid fun W => kind_bool y W
  have hw1 := (Below.refl w.heap.size w).alloc (Nat.le_refl _) (.cells #[.int .i64 2, .int .i64 0, .bool y, .string ⟨#[]⟩, .complex .f64 0 0] 34)
  unfold vA at K ⊢
  go_enter Tryd.func16, Tryd.ntmps16
  go_wp2_with fail
  refine (K.out _).mono ?_
  rintro e w1 ⟨rfl, hb1⟩
  have B := below_next hw1 hb1
  have f0 : w1.cell? ⟨w.heap.size, 0, none⟩ = some (.int .i64 2) := keep_below (by simp) hb1
  have f3 : w1.cell? ⟨w.heap.size, 3, none⟩ = some (.string ⟨#[]⟩) := keep_below (by simp) hb1
  clear hb1 hw1
  go_wp2
  go_ret
  exact ⟨rfl, B⟩

set_option maxHeartbeats 400000 in
theorem check_none  (w : World) : Calls Tryd.prog 16 #[vA 0 0 false ⟨#[]⟩ 0 0] w fun e w' => e = .returned (.int .i64 5) ∧ Below w.heap.size w w' := by
  have K := Lib.hid fun W => kind_none W
  have hw1 := (Below.refl w.heap.size w).alloc (Nat.le_refl _) (.cells #[.int .i64 0, .int .i64 0, .bool false, .string ⟨#[]⟩, .complex .f64 0 0] 34)
  unfold vA at K ⊢
  go_enter Tryd.func16, Tryd.ntmps16
  go_wp2_with fail
  refine (K.out _).mono ?_
  rintro e w1 ⟨rfl, hb1⟩
  have B := below_next hw1 hb1
  have f0 : w1.cell? ⟨w.heap.size, 0, none⟩ = some (.int .i64 0) := keep_below (by simp) hb1
  have f3 : w1.cell? ⟨w.heap.size, 3, none⟩ = some (.string ⟨#[]⟩) := keep_below (by simp) hb1
  clear hb1 hw1
  go_wp2
  go_ret
  exact ⟨rfl, B⟩
end Go.Proofs.YtiappioofagpgaaDoor
