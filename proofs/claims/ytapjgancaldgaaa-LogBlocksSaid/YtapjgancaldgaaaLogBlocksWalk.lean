/- The walk of LogBlocks. -/
import Derived.Test.YtapjgancaldgaaaLBlocks
namespace Go.Proofs.Ytapjgancaldgaaa
set_option maxRecDepth 100000
open Go.RowKit
theorem walk_LogBlocks (a0 : Int) (w : World) (ha0 : -9223372036854775808 ≤ a0 ∧ a0 ≤ 9223372036854775807) :
    Calls Try.prog 7 #[.int .i64 a0] w fun e w' => e = .returned (.bool true) ∧ Below w.heap.size w w' := by
  have h1 := wblocks a0 w ha0
  have h2 := rblocks a0 w ha0
  go_enter Try.func7, Try.ntmps7
  go_wp2_with (first
    | (go_at_call 31; refine (wlive _).mono ?_; rintro e w' ⟨rfl, rfl⟩)
    | (go_at_call 34; refine h1.mono ?_; rintro e w' ⟨rfl, rfl⟩)
    | (go_at_call 35; refine h2.mono ?_; rintro e w' ⟨rfl, rfl⟩))
  go_ret
  exact ⟨by simp, Below.refl _ _⟩
end Go.Proofs.Ytapjgancaldgaaa
