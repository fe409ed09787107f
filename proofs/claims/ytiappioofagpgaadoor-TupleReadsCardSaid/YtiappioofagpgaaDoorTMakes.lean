/- The calls that make values. -/
import Derived.Test.YtiappioofagpgaaDoorVal
namespace Go.Proofs.YtiappioofagpgaaDoor
set_option maxRecDepth 100000
open Go.RowKit

theorem run_store_complex (P : Program) (w : World) (a : Addr) (m : Mode) (k : FloatKind) (x y : Nat) : (store a (.complex k x y) m).run P w = stored P w a (.complex k x y) m := run_store P w a _ m rfl

set_option maxHeartbeats 400000 in
theorem int_makes (n : Int) (w : World) : Calls Tryd.prog 15 #[.int .i64 n] w fun e w' => e = .returned (vA 1 n false ⟨#[]⟩ 0 0) ∧ Below w.heap.size w w' := by
  unfold vA
  have hst := run_store_complex Tryd.prog
  go_enter Tryd.func15, Tryd.ntmps15
  go_wp2
  exact bodyPost_ret (v := .agg #[.int .i64 1, .int .i64 n, .bool false, .string ⟨#[]⟩, .complex .f64 0 0]) (by simp [results, Tryd.results15, go_sem]; try rfl) rfl ⟨rfl, (Below.refl _ _).alloc (Nat.le_refl _) _⟩

set_option maxHeartbeats 400000 in
theorem bool_makes (y : Bool) (w : World) : Calls Tryd.prog 17 #[.bool y] w fun e w' => e = .returned (vA 2 0 y ⟨#[]⟩ 0 0) ∧ Below w.heap.size w w' := by
  unfold vA
  have hst := run_store_complex Tryd.prog
  go_enter Tryd.func17, Tryd.ntmps17
  go_wp2
  exact bodyPost_ret (v := .agg #[.int .i64 2, .int .i64 0, .bool y, .string ⟨#[]⟩, .complex .f64 0 0]) (by simp [results, Tryd.results17, go_sem]; try rfl) rfl ⟨rfl, (Below.refl _ _).alloc (Nat.le_refl _) _⟩

set_option maxHeartbeats 400000 in
theorem bytes_makes (s : ByteArray) (w : World) : Calls Tryd.prog 21 #[.string s] w fun e w' => e = .returned (vA 3 0 false s 0 0) ∧ Below w.heap.size w w' := by
  unfold vA
  have hst := run_store_complex Tryd.prog
  go_enter Tryd.func21, Tryd.ntmps21
  go_wp2
  exact bodyPost_ret (v := .agg #[.int .i64 3, .int .i64 0, .bool false, .string s, .complex .f64 0 0]) (by simp [results, Tryd.results21, go_sem]; try rfl) rfl ⟨rfl, (Below.refl _ _).alloc (Nat.le_refl _) _⟩

def zeroK (k : Int) : Int := if 1 ≤ k ∧ k ≤ 4 then k else 0
def zeroE (k : Int) : Int := if 1 ≤ k ∧ k ≤ 4 then 0 else 5

end Go.Proofs.YtiappioofagpgaaDoor
