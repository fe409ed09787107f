/- Layer 9: the reference's ahead, Of, New. -/
import Derived.Test.YtcpifanhmkblmaaSiRef6
import Derived.Deep.DeepCutAuto
namespace Go.Proofs.Ytcpifanhmkblmaa
set_option maxRecDepth 100000
set_option maxRecDepth 100000
open Go.RowKit

/-- The order of notes. -/
def aheadP (a b : Rd) : Bool := if a.tb.toList == b.tb.toList then (if a.kd == b.kd then (if a.lo.toList == b.lo.toList then klB a.hi b.hi else klB a.lo b.lo) else decide (a.kd < b.kd)) else klB a.tb b.tb
theorem rd_ext {a b : Rd} (h1 : a.tb = b.tb) (h2 : a.kd = b.kd) (h3 : a.lo = b.lo) (h4 : a.hi = b.hi) : a = b := by
  cases a; cases b; simp only at h1 h2 h3 h4; subst h1; subst h2; subst h3; subst h4; rfl
theorem ahead_is (a b : Rd) : aheadP a b = true ↔ klB a.tb b.tb = true ∨ (a.tb = b.tb ∧ (a.kd < b.kd ∨ (a.kd = b.kd ∧ (klB a.lo b.lo = true ∨ (a.lo = b.lo ∧ klB a.hi b.hi = true))))) := by
  unfold aheadP
  rw [toList_beq8, toList_beq8]
  by_cases h1 : a.tb = b.tb
  · rw [if_pos (by simpa using h1), h1, klB_irrefl]
    by_cases h2 : a.kd = b.kd
    · rw [if_pos (by simpa using h2), h2]
      by_cases h3 : a.lo = b.lo
      · rw [if_pos (by simpa using h3), h3, klB_irrefl]; simp
      · rw [if_neg (by simpa using h3)]; simp [h3]
    · rw [if_neg (by simpa using h2)]; simp [h2]
  · rw [if_neg (by simpa using h1)]; simp [h1]
theorem ahead_irr (a : Rd) : aheadP a a = false := by
  cases h : aheadP a a
  · rfl
  · rcases (ahead_is _ _).1 h with h1 | ⟨-, h1 | ⟨-, h1 | ⟨-, h1⟩⟩⟩
    · rw [klB_irrefl] at h1; cases h1
    · omega
    · rw [klB_irrefl] at h1; cases h1
    · rw [klB_irrefl] at h1; cases h1
theorem ahead_tr (a b c : Rd) (h1 : aheadP a b = true) (h2 : aheadP b c = true) : aheadP a c = true := by
  rw [ahead_is] at *
  rcases h1 with h1 | ⟨e1, h1⟩ <;> rcases h2 with h2 | ⟨e2, h2⟩
  · exact .inl (klB_trans h1 h2)
  · exact .inl (e2 ▸ h1)
  · exact .inl (e1 ▸ h2)
  · refine .inr ⟨e1.trans e2, ?_⟩
    rcases h1 with h1 | ⟨d1, h1⟩ <;> rcases h2 with h2 | ⟨d2, h2⟩
    · exact .inl (by omega)
    · exact .inl (by omega)
    · exact .inl (by omega)
    · refine .inr ⟨d1.trans d2, ?_⟩
      rcases h1 with h1 | ⟨c1, h1⟩ <;> rcases h2 with h2 | ⟨c2, h2⟩
      · exact .inl (klB_trans h1 h2)
      · exact .inl (c2 ▸ h1)
      · exact .inl (c1 ▸ h2)
      · exact .inr ⟨c1.trans c2, klB_trans h1 h2⟩
theorem ahead_tri (a b : Rd) (h1 : aheadP a b = false) (h2 : aheadP b a = false) : a = b := by
  have n1 : ¬ aheadP a b = true := by rw [h1]; simp
  have n2 : ¬ aheadP b a = true := by rw [h2]; simp
  rw [ahead_is] at n1 n2
  have e1 : a.tb = b.tb := klB_tri (by cases h : klB a.tb b.tb with | false => rfl | true => exact absurd (.inl h) n1) (by cases h : klB b.tb a.tb with | false => rfl | true => exact absurd (.inl h) n2)
  have e2 : a.kd = b.kd := by
    have m1 : ¬ a.kd < b.kd := fun h => n1 (.inr ⟨e1, .inl h⟩)
    have m2 : ¬ b.kd < a.kd := fun h => n2 (.inr ⟨e1.symm, .inl h⟩)
    omega
  have e3 : a.lo = b.lo := klB_tri (by cases h : klB a.lo b.lo with | false => rfl | true => exact absurd (.inr ⟨e1, .inr ⟨e2, .inl h⟩⟩) n1) (by cases h : klB b.lo a.lo with | false => rfl | true => exact absurd (.inr ⟨e1.symm, .inr ⟨e2.symm, .inl h⟩⟩) n2)
  have e4 : a.hi = b.hi := klB_tri (by cases h : klB a.hi b.hi with | false => rfl | true => exact absurd (.inr ⟨e1, .inr ⟨e2, .inr ⟨e3, h⟩⟩⟩) n1) (by cases h : klB b.hi a.hi with | false => rfl | true => exact absurd (.inr ⟨e1.symm, .inr ⟨e2.symm, .inr ⟨e3.symm, h⟩⟩⟩) n2)
  exact rd_ext e1 e2 e3 e4
theorem ahead_asy (a b : Rd) (h : aheadP a b = true) : aheadP b a = false := by
  cases h2 : aheadP b a
  · rfl
  · have := ahead_tr _ _ _ h h2; rw [ahead_irr] at this; cases this

set_option maxHeartbeats 16000000 in
theorem wrAhead (w : World) (a b : Rd) : Calls Try.prog 61 #[rdV a, rdV b] w fun e w' => e = .returned (.bool (aheadP a b)) ∧ Below w.heap.size w w' := by
  obtain ⟨W1, hW1⟩ : ∃ W, w.alloc (.cells #[.string a.tb, .int .i64 a.kd, .string a.lo, .string a.hi] 31) = W := ⟨_, rfl⟩
  obtain ⟨W, hW⟩ : ∃ W, W1.alloc (.cells #[.string b.tb, .int .i64 b.kd, .string b.lo, .string b.hi] 31) = W := ⟨_, rfl⟩
  have HW1 := Lib.hid hW1
  have HW := Lib.hid hW
  have b1 : Below w.heap.size w W1 := by rw [← hW1]; exact below_alloc9 _ _
  have b2 : Below W1.heap.size W1 W := by rw [← hW]; exact below_alloc9 _ _
  have HB := Lib.hid (below_next b1 b2)
  have hz1 : W1.heap.size = w.heap.size + 1 := by rw [← hW1]; simp
  have q1 := rd_box w a
  rw [hW1] at q1
  have q1 := (b2.block _ (by omega)).trans q1
  have q2 := rd_box W1 b
  rw [hW, hz1] at q2
  have x0 : W.cell? ⟨w.heap.size, 0, none⟩ = some (.string a.tb) := cell_of_row _ _ 0 _ _ _ q1
  have x1 : W.cell? ⟨w.heap.size, 1, none⟩ = some (.int .i64 a.kd) := cell_of_row _ _ 1 _ _ _ q1
  have x2 : W.cell? ⟨w.heap.size, 2, none⟩ = some (.string a.lo) := cell_of_row _ _ 2 _ _ _ q1
  have x3 : W.cell? ⟨w.heap.size, 3, none⟩ = some (.string a.hi) := cell_of_row _ _ 3 _ _ _ q1
  have y0 : W.cell? ⟨w.heap.size + 1, 0, none⟩ = some (.string b.tb) := cell_of_row _ _ 0 _ _ _ q2
  have y1 : W.cell? ⟨w.heap.size + 1, 1, none⟩ = some (.int .i64 b.kd) := cell_of_row _ _ 1 _ _ _ q2
  have y2 : W.cell? ⟨w.heap.size + 1, 2, none⟩ = some (.string b.lo) := cell_of_row _ _ 2 _ _ _ q2
  have y3 : W.cell? ⟨w.heap.size + 1, 3, none⟩ = some (.string b.hi) := cell_of_row _ _ 3 _ _ _ q2
  clear hW1 hW b1 b2 hz1 q1 q2
  unfold rdV
  cases e0 : (a.tb.toList == b.tb.toList)
  · have HM := Lib.hid (show aheadP a b = klB a.tb b.tb by unfold aheadP; rw [e0]; rfl)
    go_enter Try.func61, Try.ntmps61
    go_upto_region 1 with fail
    rw [HW1.out, HW.out]
    go_wp2
    go_ret
    exact ⟨by rw [HM.out] <;> rfl, HB.out⟩
  · cases e1 : (a.kd == b.kd)
    · have HM := Lib.hid (show aheadP a b = decide (a.kd < b.kd) by unfold aheadP; rw [e0, e1]; rfl)
      go_enter Try.func61, Try.ntmps61
      go_upto_region 1 with fail
      rw [HW1.out, HW.out]
      go_wp2
      go_ret
      exact ⟨by rw [HM.out] <;> rfl, HB.out⟩
    · cases e2 : (a.lo.toList == b.lo.toList)
      · have HM := Lib.hid (show aheadP a b = klB a.lo b.lo by unfold aheadP; rw [e0, e1, e2]; rfl)
        go_enter Try.func61, Try.ntmps61
        go_upto_region 1 with fail
        rw [HW1.out, HW.out]
        go_wp2
        go_ret
        exact ⟨by rw [HM.out] <;> rfl, HB.out⟩
      · have HM := Lib.hid (show aheadP a b = klB a.hi b.hi by unfold aheadP; rw [e0, e1, e2]; rfl)
        go_enter Try.func61, Try.ntmps61
        go_upto_region 1 with fail
        rw [HW1.out, HW.out]
        go_wp2
        go_ret
        exact ⟨by rw [HM.out] <;> rfl, HB.out⟩
end Go.Proofs.Ytcpifanhmkblmaa
