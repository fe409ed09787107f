/- The walk of WireTexts: true at every text, all bytes and every place. -/
import Derived.Test.YthodmnekljbljaaLive
import Derived.Test.YthodmnekljbljaaHeld
import Derived.Test.YthodmnekljbljaaTakeText
import Derived.Test.YthodmnekljbljaaText
import Derived.Deep.RegionHeld3
namespace Go.Proofs.Ythodmnekljbljaa
open Go.RowKit

set_option maxHeartbeats 1000000 in
set_option maxRecDepth 100000 in
theorem walk_WireTexts (a0_0 : ByteArray) (A0_1 : Option Addr) (n0_1 c0_1 : Nat) (z0_1 : List Int) (a0_2 : Int) (a0_3 : Int) (w : World) (ha0_0 : a0_0.size ≤ 140737488351232) (h0_1 : RB w A0_1 n0_1 z0_1) (hn0_1 : n0_1 ≤ c0_1) (hc0_1 : c0_1 ≤ 140737488351232) (ha0_2 : -9223372036854775808 ≤ a0_2 ∧ a0_2 ≤ 9223372036854775807) (ha0_3 : -9223372036854775808 ≤ a0_3 ∧ a0_3 ≤ 9223372036854775807) :
    Calls Try.prog 5 #[.agg #[.string a0_0, .slice A0_1 n0_1 c0_1, .int .i64 a0_2, .int .i64 a0_3]] w fun e w' => e = .returned (.bool true) ∧ Below w.heap.size w w' := by
  have C1 := Lib.hid fun W (hW : Below w.heap.size w W) => wtakeText A0_1 n0_1 c0_1 z0_1 a0_2 a0_3 W (h0_1.below' hW) (by omega) hn0_1 ha0_3
  have C2 := Lib.hid fun W (hW : Below w.heap.size w W) => rtakeText A0_1 n0_1 c0_1 z0_1 a0_2 a0_3 W (h0_1.below' hW) (by omega) hn0_1 ha0_3
  obtain ⟨l, s, f, ht⟩ : ∃ l s f, takeText z0_1 a0_2 a0_3 = (l, s, f) := ⟨_, _, _, rfl⟩
  simp only [ht] at C1 C2
  clear ht
  have hb0 := (Below.refl w.heap.size w).alloc (Nat.le_refl _) (.cells #[.string a0_0, .slice A0_1 n0_1 c0_1, .int .i64 a0_2, .int .i64 a0_3] 36)
  have hc0 : (w.alloc (.cells #[.string a0_0, .slice A0_1 n0_1 c0_1, .int .i64 a0_2, .int .i64 a0_3] 36)).cell? ⟨w.heap.size, 0, none⟩ = some (.string a0_0) := by
    rw [World.cell?_alloc_at _ _ _ _ rfl]; rfl
  go_enter Try.func5, Try.ntmps5
  go_wp2_with fail
  refine (C1.out _ hb0).mono ?_
  rintro e w' ⟨he, rfl⟩
  simp only [TupleT] at he
  subst he
  go_wp2_with fail
  refine (C2.out _ hb0).mono ?_
  rintro e w' ⟨he, rfl⟩
  simp only [TupleT] at he
  subst he
  go_wp2_with fail
  generalize hW0 : w.alloc (.cells #[.string a0_0, .slice A0_1 n0_1 c0_1, .int .i64 a0_2, .int .i64 a0_3] 36) = w0 at hb0 hc0 ⊢
  clear hW0 C1 C2
  go_region_held3 (fun w' => w'.cell? ⟨w.heap.size, 0, none⟩ = some (.string a0_0)) (first | exact hc0 | exact hc1 | exact hc2 | exact hc3)
    (first
      | (go_at_call 14; refine (live_held ⟨w.heap.size, 0, none⟩ (.string a0_0) _ ?_).mono ?_; (simp [*]); rintro e w1 ⟨rfl, hb1, hc1⟩)
      | (go_at_call 26; refine (wtext a0_0 _ ha0_0).mono ?_; intro e w2 hm; obtain ⟨A2, c2, rfl, hr2, hb2, hc2⟩ := makes_held (by first | exact hc1 | exact hc0) e w2 hm)
      | (go_at_call 27; refine (rtext a0_0 _ ha0_0).mono ?_; intro e w3 hm; obtain ⟨A3, c3, rfl, hr3, hb3, hc3⟩ := makes_held (by first | exact hc2 | exact hc1 | exact hc0) e w3 hm)
      | (go_at_call 15; refine (equal_same _ _ _ _ _ _ _ _ (hr2.below' hb3) hr3).mono ?_; rintro e w4 ⟨rfl, rfl⟩))
  go_wp2
  go_ret
  exact ⟨rfl, below_next (below_next (below_next hb0.drew hb1) hb2) hb3⟩
end Go.Proofs.Ythodmnekljbljaa
