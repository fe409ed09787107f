import Derived.Test.YtnpeankmmojebaaGreatDoorJBD
import Derived.Deep.RegionHeld3
import Derived.Test.YtnpeankmmojebaaGreatDoorJBA
/- Layer 11: the reference's Check. -/
set_option linter.unusedVariables false
namespace Go.Proofs.YtnpeankmmojebaaGreatDoor
set_option maxRecDepth 100000
set_option maxRecDepth 100000
open Go.RowKit

theorem errH_not {cs : List Int} {ac : List Ac} (h : ¬ Right cs ac) : errH cs ac = 110 := by unfold errH; rw [if_neg (fun k => h (okH_iff.1 k))]
theorem errH_ok {cs : List Int} {ac : List Ac} (h : Right cs ac) : errH cs ac = 0 := by unfold errH; rw [if_pos (okH_iff.2 h)]
section
variable {w : World} {A B : Option Addr} {n c m d : Nat} {cs : List Int} {ac : List Ac}
set_option maxHeartbeats 16000000 in
theorem wrCheck (h : Hist w A n c B m d cs ac) :
    Calls Tryz.prog 21 #[histV A n c B m d] w fun e w' => e = .returned (.int .i64 (errH cs ac)) ∧ Below w.heap.size w w' := by
  obtain ⟨W0, hB⟩ := h.box
  have HB := Lib.hid hB
  have HW := Lib.hid hB.eq
  have x0 := hB.x0
  have x1 := hB.x1
  have hd := h.md
  have hc := h.nc
  simp only [maxLen] at hd hc
  obtain ⟨z, hz⟩ : ∃ z, errH cs ac = z := ⟨_, rfl⟩
  rw [hz]
  have HZ := Lib.hid hz
  clear h hB hz
  unfold histV
  by_cases hm : m ≤ 4096
  · by_cases hn : n ≤ 4096
    · have i1 : ¬ (4096 : Int) < (m : Int) := by omega
      have i2 : ¬ (4096 : Int) < (n : Int) := by omega
      have i3 : decide ((4096 : Int) < (m : Int)) = false := by simpa using i1
      have i4 : decide ((4096 : Int) < (n : Int)) = false := by simpa using i2
      have HM := Lib.hid hm
      have HN := Lib.hid hn
      clear hm hn hd hc
      go_enter Tryz.func21, Tryz.ntmps21
      go_upto_region 1 with fail
      rw [HW.out]
      go_upto_region 4 with fail
      go_loopw [3] (fun i wr => ∃ j : Nat, i = .int .i64 (j : Nat) ∧ j ≤ n ∧ comOk cs j ∧ Below W0.heap.size W0 wr) (fun i _ => n - (intOf i).toNat)
      case atStart => exact ⟨0, rfl, Nat.zero_le _, fun i x hi => absurd hi (Nat.not_lt_zero _), Below.refl _ _⟩
      case round =>
        rename World => wr
        obtain ⟨j, rfl, hj, ha, hbl⟩ := hrel
        have y0 := keep_below x0 hbl
        have y1 := keep_below x1 hbl
        by_cases hlt : j < n
        · obtain ⟨x, hx⟩ : ∃ x, cs[j]? = some x := ⟨_, List.getElem?_eq_getElem (by rw [HB.out.h.cl]; exact hlt)⟩
          obtain ⟨g, o, rfl, c0⟩ := (HB.out.h.gw hbl).cb.num hx
          have i5 : (j : Int) < (n : Int) := by omega
          have l1 : (j : Int) ≤ 4096 := by have := HN.out; omega
          have l2 : (0 : Int) ≤ (j : Int) := by omega
          have HA := Lib.hid ha
          have HX := Lib.hid hx
          have HLT := Lib.hid hlt
          have HBL := Lib.hid hbl
          have CP := Lib.hid (wrPlace (show Hist wr.drew (some ⟨g, o, none⟩) n c B m d cs ac from (HB.out.h.gw hbl).gw ((Below.refl _ _).drew)) HN.out x)
          have HPZ := Lib.hid (show comOk cs (j + 1) ↔ 1 ≤ x ∧ plcP cs x = (j : Int) from ⟨fun k => k j x (Nat.lt_succ_self _) hx, fun k i y hi hy => by
            rcases Nat.lt_or_ge i j with h1 | h1
            · exact ha i y h1 hy
            · have : i = j := by omega
              subst this
              rw [hx] at hy
              cases hy
              exact k⟩)
          have HNR := Lib.hid (show (¬ (1 ≤ x ∧ plcP cs x = (j : Int))) → z = 110 from fun k => by
            rw [← HZ.out]
            refine errH_not fun hr => k ?_
            exact (right_iff.1 hr).2.2.1 j x (by rw [HB.out.h.cl]; exact hlt) hx)
          unfold histV at CP
          obtain ⟨p, hp⟩ : ∃ p, plcP cs x = p := ⟨_, rfl⟩
          rw [hp] at CP HPZ HNR
          clear hx ha hj hlt hbl hp
          by_cases hx1 : x < 1
          · have HT := Lib.hid (HNR.out (fun k => by omega))
            have hx1' : decide (x < 1) = true := by simpa using hx1
            go_upto_region 6 with fail
            go_quiet (fail)
            go_wp2
            go_ret
            exact ⟨by rw [HT.out]; rfl, below_next (below_next HB.out.below HBL.out) ⟨rfl, rfl, rfl, Nat.le_refl _, fun _ _ => rfl⟩⟩
          · have hx1' : decide (x < 1) = false := by simpa using hx1
            have S0 : wr.cell? ⟨w.heap.size, 0, none⟩ = some (.slice (some ⟨g, o, none⟩) n c) ∧ wr.cell? ⟨w.heap.size, 1, none⟩ = some (.slice B m d) ∧ wr.cell? ⟨g, o + j, none⟩ = some (.int .i64 x) := ⟨y0, y1, c0⟩
            have S2 : ∀ W : World, Below wr.heap.size wr.drew W → W.cell? ⟨w.heap.size, 0, none⟩ = some (.slice (some ⟨g, o, none⟩) n c) ∧ W.cell? ⟨w.heap.size, 1, none⟩ = some (.slice B m d) ∧ W.cell? ⟨g, o + j, none⟩ = some (.int .i64 x) := fun W hW => ⟨keep_below (w := wr.drew) S0.1 hW, keep_below (w := wr.drew) S0.2.1 hW, keep_below (w := wr.drew) S0.2.2 hW⟩
            by_cases hp : p = (j : Int)
            · have HC2 := Lib.hid (HPZ.out.2 ⟨by omega, hp⟩)
              subst hp
              have hp' : ((j : Int) != (j : Int)) = false := by simp
              go_upto_region 6 with fail
              go_region_held3 (fun W => W.cell? ⟨w.heap.size, 0, none⟩ = some (.slice (some ⟨g, o, none⟩) n c) ∧ W.cell? ⟨w.heap.size, 1, none⟩ = some (.slice B m d) ∧ W.cell? ⟨g, o + j, none⟩ = some (.int .i64 x)) (first | exact S0 | exact S2 _ B2.out)
                (first | (go_at_call 39; go_loud (refine CP.out.mono ?_; rintro e w2 ⟨rfl, b2⟩; have B2 := Lib.hid (show Below wr.heap.size wr.drew w2 from b2); clear b2)))
              all_goals
                go_wp2
                go_roundw
                case rel => exact ⟨j + 1, by go_num, HLT.out, HC2.out, HBL.out.trans ((((Below.refl _ _).drew).trans B2.out).mono HBL.out.size)⟩
                case measure => have := HLT.out; simp [intOf]; omega
            · have HT := Lib.hid (HNR.out (fun k => hp k.2))
              have hp' : (p != (j : Int)) = true := by simpa using hp
              go_upto_region 6 with fail
              go_region_held3 (fun W => W.cell? ⟨w.heap.size, 0, none⟩ = some (.slice (some ⟨g, o, none⟩) n c) ∧ W.cell? ⟨w.heap.size, 1, none⟩ = some (.slice B m d) ∧ W.cell? ⟨g, o + j, none⟩ = some (.int .i64 x)) (first | exact S0 | exact S2 _ B2.out)
                (first | (go_at_call 39; go_loud (refine CP.out.mono ?_; rintro e w2 ⟨rfl, b2⟩; have B2 := Lib.hid (show Below wr.heap.size wr.drew w2 from b2); clear b2)))
              all_goals
                go_wp2
                go_ret
                exact ⟨by rw [HT.out]; rfl, below_next (below_next HB.out.below HBL.out) (((Below.refl _ _).drew).trans B2.out)⟩
        · obtain rfl : j = n := by omega
          have i5 : ¬ (j : Int) < (j : Int) := by omega
          have HA := Lib.hid ha
          have HBL := Lib.hid hbl
          clear ha hj hlt hbl
          go_upto_region 9 with fail
          go_loopw [4] (fun i wx => ∃ k : Nat, i = .int .i64 (k : Nat) ∧ k ≤ m ∧ actsOk cs ac k ∧ Below wr.heap.size wr wx) (fun i _ => m - (intOf i).toNat)
          case atStart => exact ⟨0, rfl, Nat.zero_le _, fun i x hi => absurd hi (Nat.not_lt_zero _), Below.refl _ _⟩
          case round =>
            rename World => wx
            obtain ⟨k, rfl, hk, hak, hbx⟩ := hrel
            have v0 := keep_below y0 hbx
            have v1 := keep_below y1 hbx
            by_cases hlt : k < m
            · obtain ⟨a, hx⟩ : ∃ a, ac[k]? = some a := ⟨_, List.getElem?_eq_getElem (by rw [HB.out.h.al]; exact hlt)⟩
              have CA := Lib.hid (wrAct (HB.out.h.gw (below_next HBL.out hbx)) HN.out HM.out hx)
              have i6 : (k : Int) < (m : Int) := by omega
              have l1 : (k : Int) ≤ 4096 := by have := HM.out; omega
              have l2 : (0 : Int) ≤ (k : Int) := by omega
              have HLT := Lib.hid hlt
              have HBX := Lib.hid hbx
              have HPZ := Lib.hid (show actP cs ac k a = true → actsOk cs ac (k + 1) from fun h i y hi hy => by
                rcases Nat.lt_or_ge i k with h1 | h1
                · exact hak i y h1 hy
                · have : i = k := by omega
                  subst this
                  rw [hx] at hy
                  cases hy
                  exact h)
              have HNR := Lib.hid (show actP cs ac k a = false → z = 110 from fun h => by
                rw [← HZ.out]
                refine errH_not fun hr => ?_
                have := (right_iff.1 hr).2.2.2 k a (by rw [HB.out.h.al]; exact hlt) hx
                rw [h] at this; cases this)
              unfold histV at CA
              clear hx hak hk hlt hbx
              cases hp : actP cs ac k a
              · have HT := Lib.hid (HNR.out hp)
                rw [hp] at CA
                clear hp
                go_wp2_with (go_at_call 40; go_loud (refine CA.out.mono ?_; rintro e w2 ⟨rfl, b2⟩; have B2 := Lib.hid b2; clear b2))
                go_ret
                exact ⟨by rw [HT.out]; rfl, below_next (below_next (below_next HB.out.below HBL.out) HBX.out) B2.out⟩
              · have HC2 := Lib.hid (HPZ.out hp)
                rw [hp] at CA
                clear hp
                go_wp2_with (go_at_call 40; go_loud (refine CA.out.mono ?_; rintro e w2 ⟨rfl, b2⟩; have B2 := Lib.hid b2; clear b2))
                go_roundw
                case rel => exact ⟨k + 1, by go_num, HLT.out, HC2.out, below_next HBX.out B2.out⟩
                case measure => have := HLT.out; simp [intOf]; omega
            · obtain rfl : k = m := by omega
              have i6 : ¬ (k : Int) < (k : Int) := by omega
              have HT := Lib.hid (show z = 0 by
                rw [← HZ.out]
                refine errH_ok (right_iff.2 ⟨by rw [HB.out.h.al]; exact HM.out, by rw [HB.out.h.cl]; exact HN.out, by rw [HB.out.h.cl]; exact HA.out, by rw [HB.out.h.al]; exact hak⟩))
              have HBX := Lib.hid hbx
              clear hak hk hlt hbx
              go_wp2
              go_ret
              exact ⟨by rw [HT.out]; rfl, below_next (below_next HB.out.below HBL.out) HBX.out⟩
    · have HT := Lib.hid (show z = 110 by rw [← HZ.out]; exact errH_not fun hr => hn (by rw [← HB.out.h.cl]; exact hr.lc))
      have i1 : ¬ (4096 : Int) < (m : Int) := by omega
      have i2 : (4096 : Int) < (n : Int) := by omega
      have i3 : decide ((4096 : Int) < (m : Int)) = false := by simpa using i1
      have i4 : decide ((4096 : Int) < (n : Int)) = true := by simpa using i2
      clear hm hn hd hc
      go_enter Tryz.func21, Tryz.ntmps21
      go_upto_region 1 with fail
      rw [HW.out]
      go_wp2
      go_ret
      exact ⟨by rw [HT.out]; rfl, HB.out.below⟩
  · have HT := Lib.hid (show z = 110 by rw [← HZ.out]; exact errH_not fun hr => hm (by rw [← HB.out.h.al]; exact hr.la))
    have i1 : (4096 : Int) < (m : Int) := by omega
    have i3 : decide ((4096 : Int) < (m : Int)) = true := by simpa using i1
    clear hm hd hc
    go_enter Tryz.func21, Tryz.ntmps21
    go_upto_region 1 with fail
    rw [HW.out]
    go_wp2
    go_ret
    exact ⟨by rw [HT.out]; rfl, HB.out.below⟩
end
end Go.Proofs.YtnpeankmmojebaaGreatDoor

/- Layer 11: the program's Round and Graph. -/
namespace Go.Proofs.YtnpeankmmojebaaGreatDoor
set_option maxRecDepth 100000
set_option maxRecDepth 100000
open Go.RowKit

section
variable {w : World} {A B : Option Addr} {n c m d : Nat} {cs : List Int} {ac : List Ac}
theorem wsRoundOf {gb : Nat} (h : NetAt w gb n (riseP cs) (edgesP (riseP cs) (graphP cs ac))) (hR : Right cs ac) (hn : cs.length = n) :
    Calls Tryz.prog 36 #[.pointer (some ⟨gb, 0, none⟩)] w fun e w' => ∃ v, e = .returned v ∧ ∃ l, RdIs cs ac l ∧ SO seI w.heap.size w' v l.length (numC l) ∧ Below w.heap.size w w' := by
  obtain ⟨go, gi, base, An, cn, vo, vi, hb⟩ := h
  subst hn
  refine (wsRound hb hR.edOk hR.edges_len hR.lc hR.outs_rise).mono ?_
  rintro e w' ⟨v, rfl, l, h1, h2, h3, h4⟩
  exact ⟨v, rfl, _, ⟨l, h1, h2, rfl⟩, by rw [List.length_map]; exact h3, h4⟩
set_option maxHeartbeats 16000000 in
theorem wsRoundErr (h : Hist w A n c B m d cs ac) (hR : ¬ Right cs ac) :
    Calls Tryz.prog 15 #[histV A n c B m d] w fun e w' => e = .returned (.tuple #[.slice none 0 0, .int .i64 110]) ∧ Below w.heap.size w w' := by
  obtain ⟨W0, hB⟩ := h.box
  have HB := Lib.hid hB
  have HW := Lib.hid hB.eq
  have x0 := hB.x0
  have x1 := hB.x1
  have CC := Lib.hid (wsCheck hB.h)
  rw [errH_not hR] at CC
  unfold histV at CC ⊢
  clear h hB hR
  go_enter Tryz.func15, Tryz.ntmps15
  go_upto_region 1 with fail
  rw [HW.out]
  go_wp2_with (go_at_call 22; go_loud (refine CC.out.mono ?_; rintro e w1 ⟨rfl, b1⟩; have B1 := Lib.hid b1; clear b1))
  go_ret2
  exact ⟨rfl, below_next HB.out.below B1.out⟩
set_option maxHeartbeats 16000000 in
theorem wsGraphErr (h : Hist w A n c B m d cs ac) (hR : ¬ Right cs ac) :
    Calls Tryz.prog 14 #[histV A n c B m d] w fun e w' => e = .returned (.tuple #[.slice none 0 0, .int .i64 110]) ∧ Below w.heap.size w w' := by
  obtain ⟨W0, hB⟩ := h.box
  have HB := Lib.hid hB
  have HW := Lib.hid hB.eq
  have x0 := hB.x0
  have x1 := hB.x1
  have CC := Lib.hid (wsCheck hB.h)
  rw [errH_not hR] at CC
  unfold histV at CC ⊢
  clear h hB hR
  go_enter Tryz.func14, Tryz.ntmps14
  go_upto_region 1 with fail
  rw [HW.out]
  go_wp2_with (go_at_call 22; go_loud (refine CC.out.mono ?_; rintro e w1 ⟨rfl, b1⟩; have B1 := Lib.hid b1; clear b1))
  go_ret2
  exact ⟨rfl, below_next HB.out.below B1.out⟩
set_option maxHeartbeats 16000000 in
theorem wsPivErr (h : Hist w A n c B m d cs ac) (hR : ¬ Right cs ac) :
    Calls Tryz.prog 16 #[histV A n c B m d] w fun e w' => e = .returned (.tuple #[.slice none 0 0, .int .i64 110]) ∧ Below w.heap.size w w' := by
  obtain ⟨W0, hB⟩ := h.box
  have HB := Lib.hid hB
  have HW := Lib.hid hB.eq
  have x0 := hB.x0
  have x1 := hB.x1
  have CC := Lib.hid (wsCheck hB.h)
  rw [errH_not hR] at CC
  unfold histV at CC ⊢
  clear h hB hR
  go_enter Tryz.func16, Tryz.ntmps16
  go_upto_region 1 with fail
  rw [HW.out]
  go_wp2_with (go_at_call 22; go_loud (refine CC.out.mono ?_; rintro e w1 ⟨rfl, b1⟩; have B1 := Lib.hid b1; clear b1))
  go_ret2
  exact ⟨rfl, below_next HB.out.below B1.out⟩
set_option maxHeartbeats 16000000 in
theorem wsOrderErr (h : Hist w A n c B m d cs ac) (hR : ¬ Right cs ac) :
    Calls Tryz.prog 7 #[histV A n c B m d] w fun e w' => e = .returned (.tuple #[.slice none 0 0, .bool false, .int .i64 110]) ∧ Below w.heap.size w w' := by
  obtain ⟨W0, hB⟩ := h.box
  have HB := Lib.hid hB
  have HW := Lib.hid hB.eq
  have x0 := hB.x0
  have x1 := hB.x1
  have CC := Lib.hid (wsCheck hB.h)
  rw [errH_not hR] at CC
  unfold histV at CC ⊢
  clear h hB hR
  go_enter Tryz.func7, Tryz.ntmps7
  go_upto_region 1 with fail
  rw [HW.out]
  go_wp2_with (go_at_call 22; go_loud (refine CC.out.mono ?_; rintro e w1 ⟨rfl, b1⟩; have B1 := Lib.hid b1; clear b1))
  go_ret3
  exact ⟨rfl, below_next HB.out.below B1.out⟩
set_option maxHeartbeats 16000000 in
theorem wsOrdersErr (h : Hist w A n c B m d cs ac) (hR : ¬ Right cs ac) :
    Calls Tryz.prog 11 #[histV A n c B m d] w fun e w' => e = .returned (.func (.func 32) #[] #[]) ∧ Below w.heap.size w w' := by
  obtain ⟨W0, hB⟩ := h.box
  have HB := Lib.hid hB
  have HW := Lib.hid hB.eq
  have x0 := hB.x0
  have x1 := hB.x1
  have CC := Lib.hid (wsCheck hB.h)
  rw [errH_not hR] at CC
  unfold histV at CC ⊢
  clear h hB hR
  go_enter Tryz.func11, Tryz.ntmps11
  go_upto_region 1 with fail
  rw [HW.out]
  go_wp2_with (go_at_call 22; go_loud (refine CC.out.mono ?_; rintro e w1 ⟨rfl, b1⟩; have B1 := Lib.hid b1; clear b1))
  go_ret
  exact ⟨rfl, below_next HB.out.below B1.out⟩
set_option maxHeartbeats 16000000 in
theorem wsSerialErr (h : Hist w A n c B m d cs ac) (hR : ¬ Right cs ac) (o : Value) :
    Calls Tryz.prog 23 #[histV A n c B m d, o] w fun e w' => e = .returned (.tuple #[.bool false, .int .i64 110]) ∧ Below w.heap.size w w' := by
  obtain ⟨W0, hB⟩ := h.box
  have HB := Lib.hid hB
  have HW := Lib.hid hB.eq
  have x0 := hB.x0
  have x1 := hB.x1
  have CC := Lib.hid (wsCheck hB.h)
  rw [errH_not hR] at CC
  unfold histV at CC ⊢
  clear h hB hR
  go_enter Tryz.func23, Tryz.ntmps23
  go_upto_region 1 with fail
  rw [HW.out]
  go_wp2_with (go_at_call 22; go_loud (refine CC.out.mono ?_; rintro e w1 ⟨rfl, b1⟩; have B1 := Lib.hid b1; clear b1))
  go_ret2
  exact ⟨rfl, below_next HB.out.below B1.out⟩
set_option maxHeartbeats 16000000 in
theorem wsRoundOk (h : Hist w A n c B m d cs ac) (hR : Right cs ac) :
    Calls Tryz.prog 15 #[histV A n c B m d] w fun e w' => ∃ v, e = .returned (.tuple #[v, .int .i64 0]) ∧ ∃ l, RdIs cs ac l ∧ SO seI w.heap.size w' v l.length (numC l) ∧ Below w.heap.size w w' := by
  obtain ⟨W0, hB⟩ := h.box
  have HB := Lib.hid hB
  have HW := Lib.hid hB.eq
  have x0 := hB.x0
  have x1 := hB.x1
  have CC := Lib.hid (wsCheck hB.h)
  rw [errH_ok hR] at CC
  have HR := Lib.hid hR
  have HCL := Lib.hid h.cl
  unfold histV at CC ⊢
  clear h hB hR
  go_enter Tryz.func15, Tryz.ntmps15
  go_upto_region 1 with fail
  rw [HW.out]
  go_upto_region 4 with (go_at_call 22; go_loud (refine CC.out.mono ?_; rintro e w1 ⟨rfl, b1⟩; have B1 := Lib.hid b1; have CN := Lib.hid (wsNewNet (HB.out.h.gw b1) HR.out); have y0 := keep_below x0 b1; have y1 := keep_below x1 b1; clear b1))
  unfold histV at CN
  go_wp2_with (first
    | (go_at_call 26; go_loud (refine CN.out.mono ?_; rintro e w2 ⟨gb, rfl, na, b2⟩; have B2 := Lib.hid b2; have CR := Lib.hid (wsRoundOf na HR.out HCL.out); clear na b2))
    | (go_at_call 36; go_loud (refine CR.out.mono ?_; rintro e w3 ⟨v3, rfl, l3, r3, s3, b3⟩; have R3 := Lib.hid r3; have S3 := Lib.hid s3; have B3 := Lib.hid b3; clear r3 s3 b3)))
  go_ret2
  have hb := below_next (below_next HB.out.below B1.out) B2.out
  exact ⟨_, rfl, l3, R3.out, S3.out.lower hb.size, below_next hb B3.out⟩
set_option maxHeartbeats 16000000 in
theorem wsGraphOk (h : Hist w A n c B m d cs ac) (hR : Right cs ac) :
    Calls Tryz.prog 14 #[histV A n c B m d] w fun e w' => ∃ v, e = .returned (.tuple #[v, .int .i64 0]) ∧ SO seD w.heap.size w' v (graphP cs ac).length (cellsE dpC (graphP cs ac)) ∧ Below w.heap.size w w' := by
  obtain ⟨W0, hB⟩ := h.box
  have HB := Lib.hid hB
  have HW := Lib.hid hB.eq
  have x0 := hB.x0
  have x1 := hB.x1
  have CC := Lib.hid (wsCheck hB.h)
  rw [errH_ok hR] at CC
  have HR := Lib.hid hR
  unfold histV at CC ⊢
  clear h hB hR
  go_enter Tryz.func14, Tryz.ntmps14
  go_upto_region 1 with fail
  rw [HW.out]
  go_upto_region 4 with (go_at_call 22; go_loud (refine CC.out.mono ?_; rintro e w1 ⟨rfl, b1⟩; have B1 := Lib.hid b1; have CN := Lib.hid (wsDeps (HB.out.h.gw b1) HR.out); have y0 := keep_below x0 b1; have y1 := keep_below x1 b1; clear b1))
  unfold histV at CN
  go_wp2_with (go_at_call 35; go_loud (refine CN.out.mono ?_; rintro e w2 ⟨v2, rfl, s2, b2⟩; have B2 := Lib.hid b2; have S2 := Lib.hid s2; clear s2 b2))
  go_ret2
  have hb := below_next HB.out.below B1.out
  exact ⟨_, rfl, S2.out.lower hb.size, below_next hb B2.out⟩
end
end Go.Proofs.YtnpeankmmojebaaGreatDoor

/- Layer 11: the program's Order. -/
namespace Go.Proofs.YtnpeankmmojebaaGreatDoor
set_option maxRecDepth 100000
set_option maxRecDepth 100000
open Go.RowKit

theorem TzAt.lt {w : World} (h : TzAt w) : 0 < w.heap.size := by
  have h0 := h 0 (.int .u8 0) rfl
  rw [Nat.zero_add] at h0
  unfold World.cell? at h0
  rcases Nat.lt_or_ge 0 w.heap.size with k | k
  · exact k
  · rw [Array.getElem?_eq_none (by exact k)] at h0
    cases h0
def edgeH (cs : List Int) (ac : List Ac) : Eg := edgesP (riseP cs) (graphP cs ac)
theorem edge_len {cs : List Int} {ac : List Ac} (hR : Right cs ac) : (edgeH cs ac).length ≤ 8192 := by
  unfold edgeH edgesP
  rw [List.length_map]
  have h1 := graph_len cs ac ac []
  have h2 := hR.la
  simp only [List.length_nil] at h1
  unfold graphP
  omega
section
variable {w : World} {A B : Option Addr} {n c m d : Nat} {cs : List Int} {ac : List Ac}
set_option maxHeartbeats 16000000 in
theorem wsOrderOk (h : Hist w A n c B m d cs ac) (hR : Right cs ac) (hT : TzAt w) {M : List Nat} (hM : FillP (edgeH cs ac) n [] M) :
    Calls Tryz.prog 7 #[histV A n c B m d] w fun e w' => ∃ v, e = .returned (.tuple #[v, .bool (decide (M.length = n)), .int .i64 0]) ∧ SO seI w.heap.size w' v (if M.length = n then M.length else 0) (if M.length = n then numC (M.map fun r => (riseP cs).getD r 0) else []) ∧ Below w.heap.size w w' := by
  obtain ⟨W0, hB⟩ := h.box
  have HB := Lib.hid hB
  have HW := Lib.hid hB.eq
  have x0 := hB.x0
  have x1 := hB.x1
  have CC := Lib.hid (wsCheck hB.h)
  rw [errH_ok hR] at CC
  have hcl : cs.length = n := h.cl
  have hn : n ≤ 4096 := by rw [← hcl]; exact hR.lc
  have hE : EdOk (edgeH cs ac) n := by have := hR.edOk; rw [hcl] at this; exact this
  have HR := Lib.hid hR
  have HT := Lib.hid hT
  have HE := Lib.hid hE
  have HL := Lib.hid (edge_len hR)
  have HN := Lib.hid hn
  have HM := Lib.hid hM
  have HY := Lib.hid (hM.lay .nil)
  unfold histV at CC ⊢
  clear h hB hR hT hE hn hM hcl
  by_cases hMl : M.length = n
  · rw [if_pos hMl, if_pos hMl, decide_eq_true hMl]
    go_enter Tryz.func7, Tryz.ntmps7
    go_upto_region 1 with fail
    rw [HW.out]
    go_upto_region 4 with (go_at_call 22; go_loud (refine CC.out.mono ?_; rintro e w1 ⟨rfl, b1⟩; have B1 := Lib.hid (HB.out.below.trans (b1.mono HB.out.below.size)); have CN := Lib.hid (wsNewNet (HB.out.h.gw b1) HR.out); have y0 := keep_below x0 b1; have y1 := keep_below x1 b1; clear b1))
    unfold histV at CN
    go_wp2_with (first
      | (go_at_call 26; go_loud (refine CN.out.mono ?_; rintro e w2 ⟨gb, rfl, na, b2⟩; have B2 := Lib.hid (B1.out.trans (b2.mono B1.out.size)); have CR := Lib.hid (wsNewWalk (E := edgeH cs ac) na HL.out HN.out); clear na b2))
      | (go_at_call 25; go_loud (refine CR.out.mono ?_; rintro e w3 ⟨gw, rfl, k3, b3⟩; have B3 := Lib.hid (B2.out.trans (b3.mono B2.out.size)); have CF := Lib.hid (wsFill k3 HE.out HL.out HN.out (HT.out.below B3.out) (Nat.lt_of_lt_of_le HT.out.lt B2.out.size) .nil); clear k3 b3))
      | (go_at_call 27; go_loud (refine CF.out.mono ?_; rintro e w4 ⟨M4, f4, k4, o4, rfl⟩; obtain rfl := f4.det HM.out; have B4 := Lib.hid (((Out.of_below B3.out (fun k => w2.heap.size ≤ k)).then o4).below (Nat.le_refl _) (fun i hi h => by have h : w2.heap.size ≤ i := h; have := B2.out.size; omega)); have CO := Lib.hid (wsOrd k4 HN.out HY.out); clear f4 k4 o4; rw [decide_eq_true hMl]))
      | (go_at_call 28; go_loud (refine CO.out.mono ?_; rintro e w5 ⟨v5, rfl, s5, b5⟩; have S5 := Lib.hid s5; have B5 := Lib.hid (B4.out.trans (b5.mono B4.out.size)); clear s5 b5)))
    go_ret3
    exact ⟨_, rfl, S5.out.lower B4.out.size, B5.out⟩
  · rw [if_neg hMl, if_neg hMl, decide_eq_false hMl]
    go_enter Tryz.func7, Tryz.ntmps7
    go_upto_region 1 with fail
    rw [HW.out]
    go_upto_region 4 with (go_at_call 22; go_loud (refine CC.out.mono ?_; rintro e w1 ⟨rfl, b1⟩; have B1 := Lib.hid (HB.out.below.trans (b1.mono HB.out.below.size)); have CN := Lib.hid (wsNewNet (HB.out.h.gw b1) HR.out); have y0 := keep_below x0 b1; have y1 := keep_below x1 b1; clear b1))
    unfold histV at CN
    go_wp2_with (first
      | (go_at_call 26; go_loud (refine CN.out.mono ?_; rintro e w2 ⟨gb, rfl, na, b2⟩; have B2 := Lib.hid (B1.out.trans (b2.mono B1.out.size)); have CR := Lib.hid (wsNewWalk (E := edgeH cs ac) na HL.out HN.out); clear na b2))
      | (go_at_call 25; go_loud (refine CR.out.mono ?_; rintro e w3 ⟨gw, rfl, k3, b3⟩; have B3 := Lib.hid (B2.out.trans (b3.mono B2.out.size)); have CF := Lib.hid (wsFill k3 HE.out HL.out HN.out (HT.out.below B3.out) (Nat.lt_of_lt_of_le HT.out.lt B2.out.size) .nil); clear k3 b3))
      | (go_at_call 27; go_loud (refine CF.out.mono ?_; rintro e w4 ⟨M4, f4, k4, o4, rfl⟩; obtain rfl := f4.det HM.out; have B4 := Lib.hid (((Out.of_below B3.out (fun k => w2.heap.size ≤ k)).then o4).below (Nat.le_refl _) (fun i hi h => by have h : w2.heap.size ≤ i := h; have := B2.out.size; omega)); clear f4 k4 o4; rw [decide_eq_false hMl])))
    go_ret3
    exact ⟨_, rfl, SO.nil _ _ _, B4.out⟩
end
end Go.Proofs.YtnpeankmmojebaaGreatDoor
