/- The call of live: the two calls whose answers the document fixes are answered so; what is made is new memory. -/
import Derived.Test.YthodmnekljbljaaSum
import Derived.Test.YthodmnekljbljaaTake
import Derived.Lib.SlBytesConst
namespace Go.Proofs.Ythodmnekljbljaa
open Go.RowKit

theorem crc_nine : Crc.sum [49, 50, 51, 52, 53, 54, 55, 56, 57] = 3808858755 := by decide +kernel
theorem take_three : takeUint [172, 2, 9] 0 = (300, 2, 0) := by decide +kernel

theorem conv_nine (w : World) (X : Obj) :
    (convert 25 25 (.slice (some ⟨w.heap.size + 1, 0, none⟩) 9 9)).run Try.prog ((w.alloc X).alloc (.cells #[.int .u8 49, .int .u8 50, .int .u8 51, .int .u8 52, .int .u8 53, .int .u8 54, .int .u8 55, .int .u8 56, .int .u8 57] 5)) =
      .ok (.slice (some ⟨w.heap.size + 1, 0, none⟩) 9 9) ((w.alloc X).alloc (.cells #[.int .u8 49, .int .u8 50, .int .u8 51, .int .u8 52, .int .u8 53, .int .u8 54, .int .u8 55, .int .u8 56, .int .u8 57] 5 (9, 10))) := by
  have h := Lib.run_convert_bytes_const (P := Try.prog) (w.alloc X) 25 5 #[.int .u8 49, .int .u8 50, .int .u8 51, .int .u8 52, .int .u8 53, .int .u8 54, .int .u8 55, .int .u8 56, .int .u8 57] 9 9 Try.underlying25 Try.underlying5
  simpa using h

set_option maxHeartbeats 1000000 in
theorem live_true (w : World) : Calls Try.prog 14 #[] w fun e w' => e = .returned (.bool true) ∧ Below w.heap.size w w' := by
  have h1 := RB.new w (zs := [172, 2, 9]) (e := 5) (fr := (0, 0)) (by decide)
  have h2 := RB.new (w.alloc (.cells #[.int .u8 172, .int .u8 2, .int .u8 9] 5)) (zs := [49, 50, 51, 52, 53, 54, 55, 56, 57]) (e := 5) (fr := (9, 10)) (by decide)
  have h2' : RB ((w.alloc (.cells #[.int .u8 172, .int .u8 2, .int .u8 9] 5)).alloc (.cells #[.int .u8 49, .int .u8 50, .int .u8 51, .int .u8 52, .int .u8 53, .int .u8 54, .int .u8 55, .int .u8 56, .int .u8 57] 5 (9, 10))) (some ⟨w.heap.size + 1, 0, none⟩) 9 [49, 50, 51, 52, 53, 54, 55, 56, 57] := by simpa using h2
  clear h2
  have kc := conv_nine w
  go_enter Try.func14, Try.ntmps14
  go_wp2_with fail
  refine (wtakeUint _ 3 3 [172, 2, 9] 0 _ h1 (by decide) (by decide)).mono ?_
  rintro e w' ⟨he, rfl⟩
  rw [take_three] at he
  simp only [Tuple3] at he
  subst he
  go_wp2_with fail
  refine (wsum _ 9 9 _ _ h2' (by decide)).mono ?_
  rintro e w' ⟨rfl, rfl⟩
  rw [crc_nine]
  go_wp2
  go_ret
  exact ⟨rfl, ((Below.refl _ _).alloc (Nat.le_refl _) _).alloc (by simp) _⟩
end Go.Proofs.Ythodmnekljbljaa
