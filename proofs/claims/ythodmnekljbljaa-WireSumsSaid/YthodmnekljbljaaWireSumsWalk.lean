/- The walk of WireSums: true at every list of bytes. -/
import Derived.Test.YthodmnekljbljaaLive
namespace Go.Proofs.Ythodmnekljbljaa
open Go.RowKit
set_option maxHeartbeats 1000000 in
theorem walk_WireSums (A0 : Option Addr) (n0 c0 : Nat) (z0 : List Int) (w : World) (h0 : RB w A0 n0 z0) (hn0 : n0 ≤ c0) (hc0 : c0 ≤ 140737488351232) :
    Calls Try.prog 6 #[.slice A0 n0 c0] w fun e w' => e = .returned (.bool true) ∧ Below w.heap.size w w' := by
  go_enter Try.func6, Try.ntmps6
  go_wp2_with fail
  refine (live_true _).mono ?_
  rintro e w1 ⟨rfl, hb⟩
  have h1 := h0.below' hb
  go_wp2_with fail
  refine (wsum _ _ _ _ _ h1 (by omega)).mono ?_
  rintro e w2 ⟨rfl, rfl⟩
  go_wp2_with fail
  refine (rsum _ _ _ _ _ h1 (by omega)).mono ?_
  rintro e w2 ⟨rfl, rfl⟩
  go_wp2
  go_ret
  exact ⟨rfl, hb⟩
end Go.Proofs.Ythodmnekljbljaa
