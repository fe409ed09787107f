/- Layer 11: the program's Check, walked. -/
import Derived.Test.YtbmgeobmmpaghaaGreatDoorSeE
set_option linter.unusedVariables false
namespace Go.Proofs.YtbmgeobmmpaghaaGreatDoor
set_option maxRecDepth 100000
open Go.RowKit Go.Maps Go.ChangeMaps Go.MapKept

def okH (cs : List Int) (ac : List Ac) : Bool := decide (ac.length ≤ 4096) && decide (cs.length ≤ 4096) && rightB cs ac
theorem okH_iff {cs : List Int} {ac : List Ac} : okH cs ac = true ↔ Right cs ac := by
  unfold okH
  rw [Bool.and_eq_true, Bool.and_eq_true, decide_eq_true_eq, decide_eq_true_eq]
  constructor
  · rintro ⟨⟨h1, h2⟩, h3⟩; exact (rightB_iff h1 h2).1 h3
  · intro h; exact ⟨⟨h.la, h.lc⟩, (rightB_iff h.la h.lc).2 h⟩
/-- ErrHistory, or OK. -/
def errH (cs : List Int) (ac : List Ac) : Int := if okH cs ac = true then 0 else 110
set_option maxHeartbeats 8000000 in
theorem wsCheck {w : World} {A B : Option Addr} {n c m d : Nat} {cs : List Int} {ac : List Ac} (h : Hist w A n c B m d cs ac) :
    Calls Tryz.prog 30 #[histV A n c B m d] w fun e w' => e = .returned (.int .i64 (errH cs ac)) ∧ Below w.heap.size w w' := by
  obtain ⟨W0, hW0⟩ : ∃ W, w.alloc (.cells #[.slice A n c, .slice B m d] 25) = W := ⟨_, rfl⟩
  have b0 : Below w.heap.size w W0 := by rw [← hW0]; exact alloc_below11 _ _
  have q0 : W0.heap[w.heap.size]? = some (.cells #[.slice A n c, .slice B m d] 25 (0, 0)) := by rw [← hW0]; exact heap_alloc_new _ _
  have x0 : W0.cell? ⟨w.heap.size, 0, none⟩ = some (.slice A n c) := cell_of_row _ _ 0 _ _ _ q0
  have x1 : W0.cell? ⟨w.heap.size, 1, none⟩ = some (.slice B m d) := cell_of_row _ _ 1 _ _ _ q0
  have HC := Lib.hid h.cl
  have HA := Lib.hid h.al
  have h0 := h.gw b0
  have B0 := Lib.hid b0
  have HW0 := Lib.hid hW0
  have hd := h.md
  have hc := h.nc
  simp only [maxLen] at hd hc
  by_cases hm : m ≤ 4096
  · by_cases hn : n ≤ 4096
    · have CR := Lib.hid (wsRight h0 hn hm)
      have HE := Lib.hid (show errH cs ac = if rightB cs ac = true then 0 else 110 by unfold errH okH; rw [HC.out, HA.out]; simp [hm, hn])
      rw [HE.out]
      have i1 : ¬ (4096 : Int) < (m : Int) := by omega
      have i2 : ¬ (4096 : Int) < (n : Int) := by omega
      have i3 : decide ((4096 : Int) < (m : Int)) = false := by simpa using i1
      have i4 : decide ((4096 : Int) < (n : Int)) = false := by simpa using i2
      clear h h0 b0 q0 hW0 hm hn hd hc HE
      unfold histV
      unfold histV at CR
      cases hr : rightB cs ac <;> rw [hr] at CR
      all_goals
        clear hr
        go_enter Tryz.func30, Tryz.ntmps30
        go_upto_region 1 with fail
        rw [HW0.out]
        go_wp2_with (go_at_call 54; go_loud (refine CR.out.mono ?_; rintro e w3 ⟨rfl, b3⟩; have B3 := Lib.hid b3; clear b3))
        go_ret
        exact ⟨by simp, below_next B0.out B3.out⟩
    · have HE := Lib.hid (show errH cs ac = 110 by unfold errH okH; rw [HC.out, HA.out]; simp [hn])
      rw [HE.out]
      have i1 : ¬ (4096 : Int) < (m : Int) := by omega
      have i2 : (4096 : Int) < (n : Int) := by omega
      have i3 : decide ((4096 : Int) < (m : Int)) = false := by simpa using i1
      have i4 : decide ((4096 : Int) < (n : Int)) = true := by simpa using i2
      clear h h0 b0 q0 hW0 hm hn hd hc HE
      unfold histV
      go_enter Tryz.func30, Tryz.ntmps30
      go_upto_region 1 with fail
      rw [HW0.out]
      go_wp2
      go_ret
      exact ⟨rfl, B0.out⟩
  · have HE := Lib.hid (show errH cs ac = 110 by unfold errH okH; rw [HC.out, HA.out]; simp [hm])
    rw [HE.out]
    have i1 : (4096 : Int) < (m : Int) := by omega
    have i3 : decide ((4096 : Int) < (m : Int)) = true := by simpa using i1
    clear h h0 b0 q0 hW0 hm hd hc HE
    unfold histV
    go_enter Tryz.func30, Tryz.ntmps30
    go_upto_region 1 with fail
    rw [HW0.out]
    go_wp2
    go_ret
    exact ⟨rfl, B0.out⟩
end Go.Proofs.YtbmgeobmmpaghaaGreatDoor
