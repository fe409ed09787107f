/- LexisPlaces: the line and the column of any place. -/
import Derived.Test.YtagangneoibbcaaDoorLxBg
import Derived.Test.YtagangneoibbcaaDoorLxL
set_option linter.unusedVariables false
namespace Go.Proofs.YtagangneoibbcaaDoor
set_option maxRecDepth 100000
set_option maxRecDepth 100000
open Go.RowKit

set_option maxHeartbeats 4000000 in
theorem walk_LexisPlaces (s : ByteArray) (z : Int) (w : World) (he : ErrAt w) (hs : s.size ≤ 140737488351232) (hz : -9223372036854775808 ≤ z ∧ z ≤ 9223372036854775807) :
    Calls Tryd.prog 6 #[.string s, .int .i64 z] w fun e w' => e = .returned (.bool true) ∧ Below w.heap.size w w' := by
  have BG := Lib.hid (wBegun w he)
  by_cases h : z < 0 ∨ (s.size : Int) < z
  · have C1 := Lib.hid fun W => wPlaceNo s z W hs h
    have C2 := Lib.hid fun W => wrPlaceNo s z W hs h
    clear h he hs hz
    go_enter Tryd.func6, Tryd.ntmps6
    go_wp2_with (first
      | (go_at_call 20; go_loud (refine (C1.out _).mono ?_; rintro e w1 ⟨rfl, rfl⟩))
      | (go_at_call 21; go_loud (refine (C2.out _).mono ?_; rintro e w1 ⟨rfl, rfl⟩))
      | (go_at_call 11; go_loud (refine BG.out.mono ?_; rintro e w1 ⟨rfl, b1⟩; have B1 := Lib.hid b1; clear b1)))
    go_ret
    exact ⟨rfl, B1.out⟩
  · obtain ⟨k, rfl⟩ : ∃ k : Nat, z = (k : Int) := ⟨z.toNat, by omega⟩
    have C1 := Lib.hid fun W => wPlace s k W hs (by omega)
    have C2 := Lib.hid fun W => wrPlace s k W hs (by omega)
    obtain ⟨l, hl⟩ : ∃ l : Int, ((lineP s k : Nat) : Int) = l := ⟨_, rfl⟩
    obtain ⟨c, hc⟩ : ∃ c, colP s k = c := ⟨_, rfl⟩
    rw [hl, hc] at C1 C2
    clear h he hs hz hl hc
    go_enter Tryd.func6, Tryd.ntmps6
    go_wp2_with (first
      | (go_at_call 20; go_loud (refine (C1.out _).mono ?_; rintro e w1 ⟨rfl, rfl⟩))
      | (go_at_call 21; go_loud (refine (C2.out _).mono ?_; rintro e w1 ⟨rfl, rfl⟩))
      | (go_at_call 11; go_loud (refine BG.out.mono ?_; rintro e w1 ⟨rfl, b1⟩; have B1 := Lib.hid b1; clear b1)))
    go_ret
    exact ⟨rfl, B1.out⟩
end Go.Proofs.YtagangneoibbcaaDoor
