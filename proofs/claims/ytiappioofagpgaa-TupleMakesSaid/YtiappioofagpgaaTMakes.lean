/- The calls that make values. -/
import Derived.Test.YtiappioofagpgaaVal
namespace Go.Proofs.Ytiappioofagpgaa
open Go.RowKit

theorem run_store_complex (P : Program) (w : World) (a : Addr) (m : Mode) (k : FloatKind) (x y : Nat) : (store a (.complex k x y) m).run P w = stored P w a (.complex k x y) m := run_store P w a _ m rfl

set_option maxHeartbeats 400000 in
theorem int_makes (n : Int) (w : World) : Calls Try.prog 7 #[.int .i64 n] w fun e w' => e = .returned (vA 1 n false ⟨#[]⟩ 0 0) ∧ Below w.heap.size w w' := by
  unfold vA
  have hst := run_store_complex Try.prog
  go_enter Try.func7, Try.ntmps7
  go_wp2
  exact bodyPost_ret (v := .agg #[.int .i64 1, .int .i64 n, .bool false, .string ⟨#[]⟩, .complex .f64 0 0]) (by simp [results, Try.results7, go_sem]; try rfl) rfl ⟨rfl, (Below.refl _ _).alloc (Nat.le_refl _) _⟩

set_option maxHeartbeats 400000 in
theorem bool_makes (y : Bool) (w : World) : Calls Try.prog 8 #[.bool y] w fun e w' => e = .returned (vA 2 0 y ⟨#[]⟩ 0 0) ∧ Below w.heap.size w w' := by
  unfold vA
  have hst := run_store_complex Try.prog
  go_enter Try.func8, Try.ntmps8
  go_wp2
  exact bodyPost_ret (v := .agg #[.int .i64 2, .int .i64 0, .bool y, .string ⟨#[]⟩, .complex .f64 0 0]) (by simp [results, Try.results8, go_sem]; try rfl) rfl ⟨rfl, (Below.refl _ _).alloc (Nat.le_refl _) _⟩

set_option maxHeartbeats 400000 in
theorem bytes_makes (s : ByteArray) (w : World) : Calls Try.prog 9 #[.string s] w fun e w' => e = .returned (vA 3 0 false s 0 0) ∧ Below w.heap.size w w' := by
  unfold vA
  have hst := run_store_complex Try.prog
  go_enter Try.func9, Try.ntmps9
  go_wp2
  exact bodyPost_ret (v := .agg #[.int .i64 3, .int .i64 0, .bool false, .string s, .complex .f64 0 0]) (by simp [results, Try.results9, go_sem]; try rfl) rfl ⟨rfl, (Below.refl _ _).alloc (Nat.le_refl _) _⟩

set_option maxHeartbeats 400000 in
theorem point_makes (a b : Int) (w : World) : Calls Try.prog 10 #[.int .i64 a, .int .i64 b] w fun e w' => e = .returned (vA 4 0 false ⟨#[]⟩ (floatOfInt .f64 a) (floatOfInt .f64 b)) ∧ Below w.heap.size w w' := by
  unfold vA
  have hst := run_store_complex Try.prog
  go_enter Try.func10, Try.ntmps10
  go_wp2
  exact bodyPost_ret (v := .agg #[.int .i64 4, .int .i64 0, .bool false, .string ⟨#[]⟩, .complex .f64 (floatOfInt .f64 a) (floatOfInt .f64 b)]) (by simp [results, Try.results10, go_sem]; try rfl) rfl ⟨rfl, (Below.refl _ _).alloc (Nat.le_refl _) _⟩

def zeroK (k : Int) : Int := if 1 ≤ k ∧ k ≤ 4 then k else 0
def zeroE (k : Int) : Int := if 1 ≤ k ∧ k ≤ 4 then 0 else 5

set_option maxHeartbeats 1000000 in
theorem tzero (k : Int) (w : World) : Calls Try.prog 4 #[.int .i64 k] w fun e w' => e = .returned (.tuple #[vA (zeroK k) 0 false ⟨#[]⟩ 0 0, .int .i64 (zeroE k)]) ∧ Below w.heap.size w w' := by
  have hst := run_store_complex Try.prog
  by_cases h : 1 ≤ k ∧ k ≤ 4
  · have e1 : zeroK k = k := if_pos h
    have e2 : zeroE k = 0 := if_pos h
    rw [e1, e2]
    clear e1 e2
    unfold vA
    obtain ⟨h1, h4⟩ := h
    have hc : k = 1 ∨ k = 2 ∨ k = 3 ∨ k = 4 := by omega
    rcases hc with rfl | rfl | rfl | rfl
    all_goals
      go_enter Try.func4, Try.ntmps4
      go_wp2
      refine bodyPost_ret (v := .tuple #[.agg #[.int .i64 _, .int .i64 0, .bool false, .string ⟨#[]⟩, .complex .f64 0 0], .int .i64 0]) (by simp [results, Try.results4, go_sem]; try (first | rfl | exact ⟨rfl, rfl⟩)) rfl ?_
      exact ⟨rfl, (Below.refl _ _).alloc (Nat.le_refl _) _⟩
  · have e1 : zeroK k = 0 := if_neg h
    have e2 : zeroE k = 5 := if_neg h
    rw [e1, e2]
    clear e1 e2
    unfold vA
    have g1 : (k == 1) = false := by simp; omega
    have g2 : (k == 2) = false := by simp; omega
    have g3 : (k == 3) = false := by simp; omega
    have g4 : (k == 4) = false := by simp; omega
    have hc : k < 1 ∨ 4 < k := by omega
    clear h
    rcases hc with h1 | h1
    all_goals
      go_enter Try.func4, Try.ntmps4
      go_wp2
      refine bodyPost_ret (v := .tuple #[.agg #[.int .i64 0, .int .i64 0, .bool false, .string ⟨#[]⟩, .complex .f64 0 0], .int .i64 5]) (by simp [results, Try.results4, go_sem]; try (first | rfl | exact ⟨rfl, rfl⟩)) rfl ?_
      exact ⟨rfl, (Below.refl _ _).alloc (Nat.le_refl _) _⟩

set_option maxHeartbeats 1000000 in
theorem rzero (k : Int) (w : World) : Calls Try.prog 5 #[.int .i64 k] w fun e w' => e = .returned (.tuple #[vA (zeroK k) 0 false ⟨#[]⟩ 0 0, .int .i64 (zeroE k)]) ∧ Below w.heap.size w w' := by
  have hst := run_store_complex Try.prog
  by_cases h : 1 ≤ k ∧ k ≤ 4
  · have e1 : zeroK k = k := if_pos h
    have e2 : zeroE k = 0 := if_pos h
    rw [e1, e2]
    clear e1 e2
    unfold vA
    obtain ⟨h1, h4⟩ := h
    have hc : k = 1 ∨ k = 2 ∨ k = 3 ∨ k = 4 := by omega
    rcases hc with rfl | rfl | rfl | rfl
    all_goals
      go_enter Try.func5, Try.ntmps5
      go_wp2
      refine bodyPost_ret (v := .tuple #[.agg #[.int .i64 _, .int .i64 0, .bool false, .string ⟨#[]⟩, .complex .f64 0 0], .int .i64 0]) (by simp [results, Try.results5, go_sem]; try (first | rfl | exact ⟨rfl, rfl⟩)) rfl ?_
      exact ⟨rfl, (Below.refl _ _).alloc (Nat.le_refl _) _⟩
  · have e1 : zeroK k = 0 := if_neg h
    have e2 : zeroE k = 5 := if_neg h
    rw [e1, e2]
    clear e1 e2
    unfold vA
    have g1 : (k == 1) = false := by simp; omega
    have g2 : (k == 2) = false := by simp; omega
    have g3 : (k == 3) = false := by simp; omega
    have g4 : (k == 4) = false := by simp; omega
    have hc : k < 1 ∨ 4 < k := by omega
    clear h
    rcases hc with h1 | h1
    all_goals
      go_enter Try.func5, Try.ntmps5
      go_wp2
      refine bodyPost_ret (v := .tuple #[.agg #[.int .i64 0, .int .i64 0, .bool false, .string ⟨#[]⟩, .complex .f64 0 0], .int .i64 5]) (by simp [results, Try.results5, go_sem]; try (first | rfl | exact ⟨rfl, rfl⟩)) rfl ?_
      exact ⟨rfl, (Below.refl _ _).alloc (Nat.le_refl _) _⟩
end Go.Proofs.Ytiappioofagpgaa
