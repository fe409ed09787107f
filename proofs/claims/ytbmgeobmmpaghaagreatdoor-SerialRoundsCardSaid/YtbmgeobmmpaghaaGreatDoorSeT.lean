/- Layer 11: the reference's Check. -/
import Derived.Test.YtbmgeobmmpaghaaGreatDoorSeS
import Derived.Deep.RegionHeld3
set_option linter.unusedVariables false
namespace Go.Proofs.YtbmgeobmmpaghaaGreatDoor
set_option maxRecDepth 100000
open Go.RowKit

theorem errH_not {cs : List Int} {ac : List Ac} (h : ¬ Right cs ac) : errH cs ac = 110 := by unfold errH; rw [if_neg (fun k => h (okH_iff.1 k))]
theorem errH_ok {cs : List Int} {ac : List Ac} (h : Right cs ac) : errH cs ac = 0 := by unfold errH; rw [if_pos (okH_iff.2 h)]
section
variable {w : World} {A B : Option Addr} {n c m d : Nat} {cs : List Int} {ac : List Ac}
set_option maxHeartbeats 16000000 in
theorem wrCheck (h : Hist w A n c B m d cs ac) :
    Calls Tryz.prog 29 #[histV A n c B m d] w fun e w' => e = .returned (.int .i64 (errH cs ac)) ∧ Below w.heap.size w w' := by
  obtain ⟨W0, hB⟩ := h.box
  have HB := Lib.hid hB
  have HW := Lib.hid hB.eq
  have x0 := hB.x0
  have x1 := hB.x1
  have hd := h.md
  have hc := h.nc
  simp only [maxLen] at hd hc
  obtain ⟨z, hz⟩ : ∃ z, errH cs ac = z := ⟨_, rfl⟩
  rw [hz]
  have HZ := Lib.hid hz
  clear h hB hz
  unfold histV
  by_cases hm : m ≤ 4096
  · by_cases hn : n ≤ 4096
    · have i1 : ¬ (4096 : Int) < (m : Int) := by omega
      have i2 : ¬ (4096 : Int) < (n : Int) := by omega
      have i3 : decide ((4096 : Int) < (m : Int)) = false := by simpa using i1
      have i4 : decide ((4096 : Int) < (n : Int)) = false := by simpa using i2
      have HM := Lib.hid hm
      have HN := Lib.hid hn
      clear hm hn hd hc
      go_enter Tryz.func29, Tryz.ntmps29
      go_upto_region 1 with fail
      rw [HW.out]
      go_upto_region 4 with fail
      go_loopw [3] (fun i wr => ∃ j : Nat, i = .int .i64 (j : Nat) ∧ j ≤ n ∧ comOk cs j ∧ Below W0.heap.size W0 wr) (fun i _ => n - (intOf i).toNat)
      case atStart => exact ⟨0, rfl, Nat.zero_le _, fun i x hi => absurd hi (Nat.not_lt_zero _), Below.refl _ _⟩
      case round =>
        rename World => wr
        obtain ⟨j, rfl, hj, ha, hbl⟩ := hrel
        have y0 := keep_below x0 hbl
        have y1 := keep_below x1 hbl
        by_cases hlt : j < n
        · obtain ⟨x, hx⟩ : ∃ x, cs[j]? = some x := ⟨_, List.getElem?_eq_getElem (by rw [HB.out.h.cl]; exact hlt)⟩
          obtain ⟨g, o, rfl, c0⟩ := (HB.out.h.gw hbl).cb.num hx
          have i5 : (j : Int) < (n : Int) := by omega
          have l1 : (j : Int) ≤ 4096 := by have := HN.out; omega
          have l2 : (0 : Int) ≤ (j : Int) := by omega
          have HA := Lib.hid ha
          have HX := Lib.hid hx
          have HLT := Lib.hid hlt
          have HBL := Lib.hid hbl
          have CP := Lib.hid (wrPlace (show Hist wr.drew (some ⟨g, o, none⟩) n c B m d cs ac from (HB.out.h.gw hbl).gw ((Below.refl _ _).drew)) HN.out x)
          have HPZ := Lib.hid (show comOk cs (j + 1) ↔ 1 ≤ x ∧ plcP cs x = (j : Int) from ⟨fun k => k j x (Nat.lt_succ_self _) hx, fun k i y hi hy => by
            rcases Nat.lt_or_ge i j with h1 | h1
            · exact ha i y h1 hy
            · have : i = j := by omega
              subst this
              rw [hx] at hy
              cases hy
              exact k⟩)
          have HNR := Lib.hid (show (¬ (1 ≤ x ∧ plcP cs x = (j : Int))) → z = 110 from fun k => by
            rw [← HZ.out]
            refine errH_not fun hr => k ?_
            exact (right_iff.1 hr).2.2.1 j x (by rw [HB.out.h.cl]; exact hlt) hx)
          unfold histV at CP
          obtain ⟨p, hp⟩ : ∃ p, plcP cs x = p := ⟨_, rfl⟩
          rw [hp] at CP HPZ HNR
          clear hx ha hj hlt hbl hp
          by_cases hx1 : x < 1
          · have HT := Lib.hid (HNR.out (fun k => by omega))
            have hx1' : decide (x < 1) = true := by simpa using hx1
            go_upto_region 6 with fail
            go_quiet (fail)
            go_wp2
            go_ret
            exact ⟨by rw [HT.out]; rfl, below_next (below_next HB.out.below HBL.out) ⟨rfl, rfl, rfl, Nat.le_refl _, fun _ _ => rfl⟩⟩
          · have hx1' : decide (x < 1) = false := by simpa using hx1
            have S0 : wr.cell? ⟨w.heap.size, 0, none⟩ = some (.slice (some ⟨g, o, none⟩) n c) ∧ wr.cell? ⟨w.heap.size, 1, none⟩ = some (.slice B m d) ∧ wr.cell? ⟨g, o + j, none⟩ = some (.int .i64 x) := ⟨y0, y1, c0⟩
            have S2 : ∀ W : World, Below wr.heap.size wr.drew W → W.cell? ⟨w.heap.size, 0, none⟩ = some (.slice (some ⟨g, o, none⟩) n c) ∧ W.cell? ⟨w.heap.size, 1, none⟩ = some (.slice B m d) ∧ W.cell? ⟨g, o + j, none⟩ = some (.int .i64 x) := fun W hW => ⟨keep_below (w := wr.drew) S0.1 hW, keep_below (w := wr.drew) S0.2.1 hW, keep_below (w := wr.drew) S0.2.2 hW⟩
            by_cases hp : p = (j : Int)
            · have HC2 := Lib.hid (HPZ.out.2 ⟨by omega, hp⟩)
              subst hp
              have hp' : ((j : Int) != (j : Int)) = false := by simp
              go_upto_region 6 with fail
              go_region_held3 (fun W => W.cell? ⟨w.heap.size, 0, none⟩ = some (.slice (some ⟨g, o, none⟩) n c) ∧ W.cell? ⟨w.heap.size, 1, none⟩ = some (.slice B m d) ∧ W.cell? ⟨g, o + j, none⟩ = some (.int .i64 x)) (first | exact S0 | exact S2 _ B2.out)
                (first | (go_at_call 52; go_loud (refine CP.out.mono ?_; rintro e w2 ⟨rfl, b2⟩; have B2 := Lib.hid (show Below wr.heap.size wr.drew w2 from b2); clear b2)))
              all_goals
                go_wp2
                go_roundw
                case rel => exact ⟨j + 1, by go_num, HLT.out, HC2.out, HBL.out.trans ((((Below.refl _ _).drew).trans B2.out).mono HBL.out.size)⟩
                case measure => have := HLT.out; simp [intOf]; omega
            · have HT := Lib.hid (HNR.out (fun k => hp k.2))
              have hp' : (p != (j : Int)) = true := by simpa using hp
              go_upto_region 6 with fail
              go_region_held3 (fun W => W.cell? ⟨w.heap.size, 0, none⟩ = some (.slice (some ⟨g, o, none⟩) n c) ∧ W.cell? ⟨w.heap.size, 1, none⟩ = some (.slice B m d) ∧ W.cell? ⟨g, o + j, none⟩ = some (.int .i64 x)) (first | exact S0 | exact S2 _ B2.out)
                (first | (go_at_call 52; go_loud (refine CP.out.mono ?_; rintro e w2 ⟨rfl, b2⟩; have B2 := Lib.hid (show Below wr.heap.size wr.drew w2 from b2); clear b2)))
              all_goals
                go_wp2
                go_ret
                exact ⟨by rw [HT.out]; rfl, below_next (below_next HB.out.below HBL.out) (((Below.refl _ _).drew).trans B2.out)⟩
        · obtain rfl : j = n := by omega
          have i5 : ¬ (j : Int) < (j : Int) := by omega
          have HA := Lib.hid ha
          have HBL := Lib.hid hbl
          clear ha hj hlt hbl
          go_upto_region 9 with fail
          go_loopw [4] (fun i wx => ∃ k : Nat, i = .int .i64 (k : Nat) ∧ k ≤ m ∧ actsOk cs ac k ∧ Below wr.heap.size wr wx) (fun i _ => m - (intOf i).toNat)
          case atStart => exact ⟨0, rfl, Nat.zero_le _, fun i x hi => absurd hi (Nat.not_lt_zero _), Below.refl _ _⟩
          case round =>
            rename World => wx
            obtain ⟨k, rfl, hk, hak, hbx⟩ := hrel
            have v0 := keep_below y0 hbx
            have v1 := keep_below y1 hbx
            by_cases hlt : k < m
            · obtain ⟨a, hx⟩ : ∃ a, ac[k]? = some a := ⟨_, List.getElem?_eq_getElem (by rw [HB.out.h.al]; exact hlt)⟩
              have CA := Lib.hid (wrAct (HB.out.h.gw (below_next HBL.out hbx)) HN.out HM.out hx)
              have i6 : (k : Int) < (m : Int) := by omega
              have l1 : (k : Int) ≤ 4096 := by have := HM.out; omega
              have l2 : (0 : Int) ≤ (k : Int) := by omega
              have HLT := Lib.hid hlt
              have HBX := Lib.hid hbx
              have HPZ := Lib.hid (show actP cs ac k a = true → actsOk cs ac (k + 1) from fun h i y hi hy => by
                rcases Nat.lt_or_ge i k with h1 | h1
                · exact hak i y h1 hy
                · have : i = k := by omega
                  subst this
                  rw [hx] at hy
                  cases hy
                  exact h)
              have HNR := Lib.hid (show actP cs ac k a = false → z = 110 from fun h => by
                rw [← HZ.out]
                refine errH_not fun hr => ?_
                have := (right_iff.1 hr).2.2.2 k a (by rw [HB.out.h.al]; exact hlt) hx
                rw [h] at this; cases this)
              unfold histV at CA
              clear hx hak hk hlt hbx
              cases hp : actP cs ac k a
              · have HT := Lib.hid (HNR.out hp)
                rw [hp] at CA
                clear hp
                go_wp2_with (go_at_call 53; go_loud (refine CA.out.mono ?_; rintro e w2 ⟨rfl, b2⟩; have B2 := Lib.hid b2; clear b2))
                go_ret
                exact ⟨by rw [HT.out]; rfl, below_next (below_next (below_next HB.out.below HBL.out) HBX.out) B2.out⟩
              · have HC2 := Lib.hid (HPZ.out hp)
                rw [hp] at CA
                clear hp
                go_wp2_with (go_at_call 53; go_loud (refine CA.out.mono ?_; rintro e w2 ⟨rfl, b2⟩; have B2 := Lib.hid b2; clear b2))
                go_roundw
                case rel => exact ⟨k + 1, by go_num, HLT.out, HC2.out, below_next HBX.out B2.out⟩
                case measure => have := HLT.out; simp [intOf]; omega
            · obtain rfl : k = m := by omega
              have i6 : ¬ (k : Int) < (k : Int) := by omega
              have HT := Lib.hid (show z = 0 by
                rw [← HZ.out]
                refine errH_ok (right_iff.2 ⟨by rw [HB.out.h.al]; exact HM.out, by rw [HB.out.h.cl]; exact HN.out, by rw [HB.out.h.cl]; exact HA.out, by rw [HB.out.h.al]; exact hak⟩))
              have HBX := Lib.hid hbx
              clear hak hk hlt hbx
              go_wp2
              go_ret
              exact ⟨by rw [HT.out]; rfl, below_next (below_next HB.out.below HBL.out) HBX.out⟩
    · have HT := Lib.hid (show z = 110 by rw [← HZ.out]; exact errH_not fun hr => hn (by rw [← HB.out.h.cl]; exact hr.lc))
      have i1 : ¬ (4096 : Int) < (m : Int) := by omega
      have i2 : (4096 : Int) < (n : Int) := by omega
      have i3 : decide ((4096 : Int) < (m : Int)) = false := by simpa using i1
      have i4 : decide ((4096 : Int) < (n : Int)) = true := by simpa using i2
      clear hm hn hd hc
      go_enter Tryz.func29, Tryz.ntmps29
      go_upto_region 1 with fail
      rw [HW.out]
      go_wp2
      go_ret
      exact ⟨by rw [HT.out]; rfl, HB.out.below⟩
  · have HT := Lib.hid (show z = 110 by rw [← HZ.out]; exact errH_not fun hr => hm (by rw [← HB.out.h.al]; exact hr.la))
    have i1 : (4096 : Int) < (m : Int) := by omega
    have i3 : decide ((4096 : Int) < (m : Int)) = true := by simpa using i1
    clear hm hd hc
    go_enter Tryz.func29, Tryz.ntmps29
    go_upto_region 1 with fail
    rw [HW.out]
    go_wp2
    go_ret
    exact ⟨by rw [HT.out]; rfl, HB.out.below⟩
end
end Go.Proofs.YtbmgeobmmpaghaaGreatDoor
