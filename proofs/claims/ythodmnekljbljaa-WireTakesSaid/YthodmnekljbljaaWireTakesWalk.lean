/- The walk of WireTakes: true at all bytes and every place. -/
import Derived.Test.YthodmnekljbljaaLive
import Derived.Test.YthodmnekljbljaaTakeInt
namespace Go.Proofs.Ythodmnekljbljaa
open Go.RowKit
set_option maxHeartbeats 1000000 in
theorem walk_WireTakes (A0 : Option Addr) (n0 c0 : Nat) (z0 : List Int) (a1 : Int) (w : World) (h0 : RB w A0 n0 z0) (hn0 : n0 ≤ c0) (hc0 : c0 ≤ 140737488351232) (ha1 : -9223372036854775808 ≤ a1 ∧ a1 ≤ 9223372036854775807) :
    Calls Try.prog 4 #[.slice A0 n0 c0, .int .i64 a1] w fun e w' => e = .returned (.bool true) ∧ Below w.heap.size w w' := by
  obtain ⟨u, s, e, ht⟩ : ∃ u s e, takeUint z0 a1 = (u, s, e) := ⟨_, _, _, rfl⟩
  obtain ⟨v, l, f, hi⟩ : ∃ v l f, takeInt z0 a1 = (v, l, f) := ⟨_, _, _, rfl⟩
  have C1 := Lib.hid (wtakeUint A0 n0 c0 z0 a1 w h0 (by omega) hn0)
  have C2 := Lib.hid (rtakeUint A0 n0 c0 z0 a1 w h0 (by omega))
  have C3 := Lib.hid (wtakeInt A0 n0 c0 z0 a1 w h0 (by omega) hn0)
  have C4 := Lib.hid (rtakeInt A0 n0 c0 z0 a1 w h0 (by omega))
  rw [ht] at C1 C2
  rw [hi] at C3 C4
  clear ht hi
  go_enter Try.func4, Try.ntmps4
  go_wp2_with fail
  refine C1.out.mono ?_
  rintro _ w' ⟨he, rfl⟩
  simp only [Tuple3] at he
  subst he
  go_wp2_with fail
  refine C2.out.mono ?_
  rintro _ w' ⟨he, rfl⟩
  simp only [Tuple3] at he
  subst he
  go_wp2_with fail
  refine C3.out.mono ?_
  rintro _ w' ⟨he, rfl⟩
  simp only [Tuple3i] at he
  subst he
  go_wp2_with fail
  refine C4.out.mono ?_
  rintro _ w' ⟨he, rfl⟩
  simp only [Tuple3i] at he
  subst he
  go_wp2_with fail
  refine (live_true _).mono ?_
  rintro e w1 ⟨rfl, hb⟩
  go_wp2
  go_ret
  exact ⟨rfl, hb⟩
end Go.Proofs.Ythodmnekljbljaa
