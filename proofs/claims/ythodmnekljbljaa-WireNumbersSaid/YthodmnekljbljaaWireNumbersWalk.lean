/- The walk of WireNumbers: true at every number. -/
import Derived.Test.YthodmnekljbljaaLive
import Derived.Test.YthodmnekljbljaaInt
import Derived.Test.YthodmnekljbljaaEqual
namespace Go.Proofs.Ythodmnekljbljaa
open Go.RowKit
set_option maxHeartbeats 1000000 in
set_option maxRecDepth 100000 in
theorem walk_WireNumbers (a0 : Int) (a1 : Int) (w : World) (ha0 : 0 ≤ a0 ∧ a0 ≤ 18446744073709551615) (ha1 : -9223372036854775808 ≤ a1 ∧ a1 ≤ 9223372036854775807) :
    Calls Try.prog 3 #[.int .u64 a0, .int .i64 a1] w fun e w' => e = .returned (.bool true) ∧ Below w.heap.size w w' := by
  obtain ⟨u, rfl⟩ := Int.eq_ofNat_of_zero_le ha0.1
  have hu : u < 18446744073709551616 := by omega
  clear ha0
  go_enter Try.func3, Try.ntmps3
  go_wp2_with fail
  refine (live_true _).mono ?_
  rintro e w1 ⟨rfl, hb1⟩
  go_wp2_with fail
  refine (wuint _ _ hu).mono ?_
  rintro e w2 ⟨v2, rfl, ho2, hb2⟩
  obtain ⟨A2, c2, rfl, hr2, -, -⟩ := ho2.form
  clear ho2
  go_wp2_with fail
  refine (ruint _ _ hu).mono ?_
  rintro e w3 ⟨v3, rfl, ho3, hb3⟩
  obtain ⟨A3, c3, rfl, hr3, -, -⟩ := ho3.form
  clear ho3
  go_wp2_with fail
  refine (equal_same _ _ _ _ _ _ _ _ (hr2.below' hb3) hr3).mono ?_
  rintro e w4 ⟨rfl, rfl⟩
  go_wp2_with fail
  refine (wint _ _ ha1).mono ?_
  rintro e w5 ⟨v5, rfl, ho5, hb5⟩
  obtain ⟨A5, c5, rfl, hr5, -, -⟩ := ho5.form
  clear ho5
  go_wp2_with fail
  refine (rint _ _ ha1).mono ?_
  rintro e w6 ⟨v6, rfl, ho6, hb6⟩
  obtain ⟨A6, c6, rfl, hr6, -, -⟩ := ho6.form
  clear ho6
  go_wp2_with fail
  refine (equal_same _ _ _ _ _ _ _ _ (hr5.below' hb6) hr6).mono ?_
  rintro e w7 ⟨rfl, rfl⟩
  go_wp2
  go_ret
  exact ⟨rfl, below_next (below_next (below_next (below_next hb1 hb2) hb3) hb5) hb6⟩
end Go.Proofs.Ythodmnekljbljaa
