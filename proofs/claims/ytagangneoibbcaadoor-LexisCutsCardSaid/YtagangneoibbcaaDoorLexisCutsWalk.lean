/- LexisCuts: Tokens of any text. -/
import Derived.Test.YtagangneoibbcaaDoorLxAh
import Derived.Test.YtagangneoibbcaaDoorLxSm
set_option linter.unusedVariables false
namespace Go.Proofs.YtagangneoibbcaaDoor
set_option maxRecDepth 100000
set_option maxRecDepth 100000
open Go.RowKit

set_option maxHeartbeats 8000000 in
theorem wSameNil (w : World) : Calls Tryd.prog 12 #[.slice none 0 0, .slice none 0 0] w fun e w' => e = .returned (.bool true) ∧ Below w.heap.size w w' := wSame (l := []) (SB.empty w none) (SB.empty w none) (by decide)
set_option maxHeartbeats 8000000 in
theorem walk_LexisCuts (s : ByteArray) (w : World) (he : ErrAt w) (hs : s.size ≤ 140737488351232) :
    Calls Tryd.prog 3 #[.string s] w fun e w' => e = .returned (.bool true) ∧ Below w.heap.size w w' := by
  have BG := Lib.hid fun W (h : ErrAt W) => wBegun W h
  have HE := Lib.hid he
  by_cases hl : s.size ≤ 65536
  · have C1 := Lib.hid (wTokens s w hl he)
    have C2 := Lib.hid fun W => wrTokens s W hl
    by_cases h0 : (toksP (strB s)).2.2 = 0
    · have C1 := Lib.hid (C1.out.mono fun e w' h => h.yes_ hl h0)
      have C2 := Lib.hid fun W => (C2.out W).mono fun e w' h => h.yes_ hl h0
      have HLN := Lib.hid (show (toksP (strB s)).1.length ≤ 1000000 from toks_len s hl)
      obtain ⟨l, hll⟩ : ∃ l, (toksP (strB s)).1 = l := ⟨_, rfl⟩
      rw [hll] at C1 C2 HLN
      clear h0 hl he hs hll
      go_enter Tryd.func3, Tryd.ntmps3
      go_wp2_with (first
        | (go_at_call 9; go_loud (refine C1.out.mono ?_; rintro e w1 ⟨b1, v1, rfl, t1⟩; obtain ⟨A1, c1, rfl, sb1, -⟩ := t1.form; have B1 := Lib.hid b1; have SB1 := Lib.hid sb1; clear b1 t1 sb1))
        | (go_at_call 10; go_loud (refine (C2.out _).mono ?_; rintro e w2 ⟨b2, v2, rfl, t2⟩; obtain ⟨A2, c2, rfl, sb2, -⟩ := t2.form; have B2 := Lib.hid (below_next B1.out b2); have B12 := Lib.hid b2; have SB2 := Lib.hid sb2; clear b2 t2 sb2))
        | (go_at_call 11; go_loud (refine (BG.out _ (HE.out.below B2.out)).mono ?_; rintro e w3 ⟨rfl, b3⟩; have B3 := Lib.hid (below_next B2.out b3); have B23 := Lib.hid b3; clear b3))
        | (go_at_call 12; go_loud (refine (wSame ((SB1.out.gw B12.out).gw B23.out) (SB2.out.gw B23.out) HLN.out).mono ?_; rintro e w4 ⟨rfl, b4⟩; have B4 := Lib.hid (below_next B3.out b4); clear b4)))
      go_ret
      exact ⟨rfl, B4.out⟩
    · have C1 := Lib.hid (C1.out.mono fun e w' h => h.no_ hl h0)
      have C2 := Lib.hid fun W => (C2.out W).mono fun e w' h => h.no_ hl h0
      obtain ⟨q, hq⟩ : ∃ q : Int, (((toksP (strB s)).2.1 : Nat) : Int) = q := ⟨_, rfl⟩
      obtain ⟨e0, he0⟩ : ∃ e0, (toksP (strB s)).2.2 = e0 := ⟨_, rfl⟩
      rw [hq, he0] at C1 C2
      clear h0 hl he hs hq he0
      go_enter Tryd.func3, Tryd.ntmps3
      go_wp2_with (first
        | (go_at_call 9; go_loud (refine C1.out.mono ?_; rintro e w1 ⟨b1, rfl⟩; have B1 := Lib.hid b1; clear b1))
        | (go_at_call 10; go_loud (refine (C2.out _).mono ?_; rintro e w2 ⟨b2, rfl⟩; have B2 := Lib.hid (below_next B1.out b2); clear b2))
        | (go_at_call 11; go_loud (refine (BG.out _ (HE.out.below B2.out)).mono ?_; rintro e w3 ⟨rfl, b3⟩; have B3 := Lib.hid (below_next B2.out b3); clear b3))
        | (go_at_call 12; go_loud (refine (wSameNil _).mono ?_; rintro e w4 ⟨rfl, b4⟩; have B4 := Lib.hid (below_next B3.out b4); clear b4)))
      go_ret
      exact ⟨rfl, B4.out⟩
  · have C1 := Lib.hid fun W => wTokensLong s W (by omega) hs
    have C2 := Lib.hid fun W => wrTokensLong s W (by omega) hs
    clear hl he hs
    go_enter Tryd.func3, Tryd.ntmps3
    go_wp2_with (first
      | (go_at_call 9; go_loud (refine (C1.out _).mono ?_; rintro e w1 ⟨rfl, rfl⟩))
      | (go_at_call 10; go_loud (refine (C2.out _).mono ?_; rintro e w2 ⟨rfl, rfl⟩))
      | (go_at_call 11; go_loud (refine (BG.out _ HE.out).mono ?_; rintro e w3 ⟨rfl, b3⟩; have B3 := Lib.hid b3; clear b3))
      | (go_at_call 12; go_loud (refine (wSameNil _).mono ?_; rintro e w4 ⟨rfl, b4⟩; have B4 := Lib.hid (below_next B3.out b4); clear b4)))
    go_ret
    exact ⟨rfl, B4.out⟩
end Go.Proofs.YtagangneoibbcaaDoor
