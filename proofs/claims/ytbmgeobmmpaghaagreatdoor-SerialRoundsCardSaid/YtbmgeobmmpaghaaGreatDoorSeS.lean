/- Layer 11: the reference's act and Check. -/
import Derived.Test.YtbmgeobmmpaghaaGreatDoorSeR
import Derived.Test.YtbmgeobmmpaghaaGreatDoorSeF
set_option linter.unusedVariables false
namespace Go.Proofs.YtbmgeobmmpaghaaGreatDoor
set_option maxRecDepth 100000
open Go.RowKit

section
variable {w : World} {A B : Option Addr} {n c m d : Nat} {cs : List Int} {ac : List Ac}
set_option maxHeartbeats 16000000 in
theorem wrAct (h : Hist w A n c B m d cs ac) (hn : n ≤ 4096) (hm : m ≤ 4096) {i : Nat} {a : Ac} (hi : ac[i]? = some a) :
    Calls Tryz.prog 53 #[histV A n c B m d, .int .i64 (i : Nat)] w fun e w' => e = .returned (.bool (actP cs ac i a)) ∧ Below w.heap.size w w' := by
  obtain ⟨W0, hB⟩ := h.box
  obtain ⟨X, hX⟩ := a.box W0
  have HX := Lib.hid (hX.eq)
  have x1 := hB.x1
  have y0 := keep_below hB.x0 hX.below
  have y1 := keep_below hB.x1 hX.below
  have d0 := hX.d0
  have d1 := hX.d1
  have d2 := hX.d2
  have d3 := hX.d3
  have HXX := Lib.hid (hB.h.gw hX.below)
  have CP := Lib.hid (wrPlace (hB.h.gw hX.below) hn a.txn)
  have BX := Lib.hid (below_next hB.below hX.below)
  have HB := Lib.hid hB
  have HW := Lib.hid hB.eq
  have HN := Lib.hid hn
  have HM := Lib.hid hm
  have him : i < m := by have := (List.getElem?_eq_some_iff.1 hi).1; have := h.al; omega
  obtain ⟨g, o, rfl, c0, c1, c2, c3⟩ := hB.h.act hi
  have i1 : (i : Int) < (m : Int) := by omega
  have l2 : (0 : Int) ≤ (i : Int) := by omega
  have l1 : (i : Int) ≤ 4096 := by omega
  have HI := Lib.hid him
  clear h hB hn hm hX hi him
  obtain ⟨at_, aw, ai, av⟩ := a
  dsimp only at *
  have HAP := Lib.hid (show actP cs ac i ⟨at_, aw, ai, av⟩ = (!decide (plcP cs at_ < 0) && if aw then !(ac.take i).any (wrB at_ ai) && decide (av = 0) else decide (av = 0) || (decide (0 ≤ plcP cs av) && writesP ac av ai)) from rfl)
  rw [HAP.out]
  unfold histV at CP
  unfold histV
  generalize plcP cs at_ = z at CP ⊢
  clear HAP
  by_cases hz : z < 0
  · rw [show decide (z < 0) = true by simpa using hz, Bool.not_true, Bool.false_and]
    go_enter Tryz.func53, Tryz.ntmps53
    go_upto_region 1 with fail
    rw [HW.out]
    go_upto_region 2 with fail
    rw [HX.out]
    clear c0 c1 c2 c3
    go_wp2_with (go_at_call 52; go_loud (refine CP.out.mono ?_; rintro e w2 ⟨rfl, b2⟩; have B2 := Lib.hid b2; clear b2))
    go_ret
    exact ⟨by simp, below_next BX.out B2.out⟩
  · rw [show decide (z < 0) = false by simpa using hz, Bool.not_false, Bool.true_and]
    cases aw
    · rw [if_neg (by simp)]
      by_cases hv : av = 0
      · subst hv
        rw [show decide ((0 : Int) = 0) = true from rfl, Bool.true_or]
        go_enter Tryz.func53, Tryz.ntmps53
        go_upto_region 1 with fail
        rw [HW.out]
        go_upto_region 2 with fail
        rw [HX.out]
        clear c0 c1 c2 c3
        go_wp2_with (go_at_call 52; go_loud (refine CP.out.mono ?_; rintro e w2 ⟨rfl, b2⟩; have B2 := Lib.hid b2; have z0 := keep_below y0 b2; have z1 := keep_below y1 b2; have e0 := keep_below d0 b2; have e1 := keep_below d1 b2; have e2 := keep_below d2 b2; have e3 := keep_below d3 b2; clear b2))
        go_ret
        exact ⟨by simp, below_next BX.out B2.out⟩
      · have hv' : (av == 0) = false := by simpa using hv
        rw [show decide (av = 0) = false by simpa using hv, Bool.false_or]
        have CV := Lib.hid (fun W (hW : Below X.heap.size X W) => wrPlace (HXX.out.gw hW) HN.out av)
        obtain ⟨z2, hz2⟩ : ∃ z2, plcP cs av = z2 := ⟨_, rfl⟩
        rw [hz2] at CV ⊢
        obtain ⟨q2, hq2⟩ : ∃ q2, writesP ac av ai = q2 := ⟨_, rfl⟩
        have CWW := Lib.hid (fun W (hW : Below X.heap.size X W) => wrWrites (HXX.out.gw hW) HM.out av ai)
        rw [hq2] at CWW ⊢
        unfold histV at CV CWW
        clear hz2 hq2
        by_cases hzz : (0 : Int) ≤ z2
        · rw [show decide ((0 : Int) ≤ z2) = true by simpa using hzz, Bool.true_and]
          have hzz' : decide ((0 : Int) ≤ z2) = true := by simpa using hzz
          go_enter Tryz.func53, Tryz.ntmps53
          go_upto_region 1 with fail
          rw [HW.out]
          go_upto_region 2 with fail
          rw [HX.out]
          clear c0 c1 c2 c3
          go_upto_region 5 with (go_at_call 52; go_loud (refine CP.out.mono ?_; rintro e w2 ⟨rfl, b2⟩; have B2 := Lib.hid b2; have z0 := keep_below y0 b2; have z1 := keep_below y1 b2; have e0 := keep_below d0 b2; have e1 := keep_below d1 b2; have e2 := keep_below d2 b2; have e3 := keep_below d3 b2; clear b2))
          clear y0 y1 d0 d1 d2 d3
          go_wp2_with (first
            | (go_at_call 52; go_loud (refine (CV.out _ B2.out).mono ?_; rintro e w3 ⟨rfl, b3⟩; have B3 := Lib.hid b3; have z0' := keep_below z0 b3; have z1' := keep_below z1 b3; have e2' := keep_below e2 b3; have e3' := keep_below e3 b3; clear b3))
            | (go_at_call 62; go_loud (refine (CWW.out _ (below_next B2.out B3.out)).mono ?_; rintro e w4 ⟨rfl, b4⟩; have B4 := Lib.hid b4; clear b4)))
          go_ret
          exact ⟨by first | rfl | simp, below_next (below_next (below_next BX.out B2.out) B3.out) B4.out⟩
        · rw [show decide ((0 : Int) ≤ z2) = false by simpa using hzz, Bool.false_and]
          have hzz' : decide ((0 : Int) ≤ z2) = false := by simpa using hzz
          go_enter Tryz.func53, Tryz.ntmps53
          go_upto_region 1 with fail
          rw [HW.out]
          go_upto_region 2 with fail
          rw [HX.out]
          clear c0 c1 c2 c3
          go_upto_region 5 with (go_at_call 52; go_loud (refine CP.out.mono ?_; rintro e w2 ⟨rfl, b2⟩; have B2 := Lib.hid b2; have z0 := keep_below y0 b2; have z1 := keep_below y1 b2; have e0 := keep_below d0 b2; have e1 := keep_below d1 b2; have e2 := keep_below d2 b2; have e3 := keep_below d3 b2; clear b2))
          clear y0 y1 d0 d1 d2 d3
          go_wp2_with (first
            | (go_at_call 52; go_loud (refine (CV.out _ B2.out).mono ?_; rintro e w3 ⟨rfl, b3⟩; have B3 := Lib.hid b3; have z0' := keep_below z0 b3; have z1' := keep_below z1 b3; have e2' := keep_below e2 b3; have e3' := keep_below e3 b3; clear b3))
            | (go_at_call 62; go_loud (refine (CWW.out _ (below_next B2.out B3.out)).mono ?_; rintro e w4 ⟨rfl, b4⟩; have B4 := Lib.hid b4; clear b4)))
          go_ret
          exact ⟨by first | rfl | simp, below_next (below_next BX.out B2.out) B3.out⟩
    · rw [if_pos rfl]
      obtain ⟨qA, hqA⟩ : ∃ q, (ac.take i).any (wrB at_ ai) = q := ⟨_, rfl⟩
      obtain ⟨qv, hqv⟩ : ∃ q, decide (av = 0) = q := ⟨_, rfl⟩
      rw [hqA, hqv]
      have HQA := Lib.hid hqA
      have HQV := Lib.hid hqv
      clear hqA hqv
      go_enter Tryz.func53, Tryz.ntmps53
      go_upto_region 1 with fail
      rw [HW.out]
      go_upto_region 2 with fail
      rw [HX.out]
      clear c0 c1 c2 c3
      go_upto_region 7 with (go_at_call 52; go_loud (refine CP.out.mono ?_; rintro e w2 ⟨rfl, b2⟩; have B2 := Lib.hid b2; have HX2 := Lib.hid (HXX.out.gw b2); have z1 := keep_below y1 b2; have e0 := keep_below d0 b2; have e1 := keep_below d1 b2; have e2 := keep_below d2 b2; have e3 := keep_below d3 b2; clear b2))
      clear x1 y0 y1 d0 d1 d2 d3
      go_loopw [6] (fun k wr => ∃ j : Nat, k = .int .i64 (j : Nat) ∧ j ≤ i ∧ (ac.take j).any (wrB at_ ai) = false ∧ Below w2.heap.size w2 wr) (fun k _ => i - (intOf k).toNat)
      case atStart => exact ⟨0, rfl, Nat.zero_le _, by simp, Below.refl _ _⟩
      case round =>
        rename World => wr
        obtain ⟨j, rfl, hj, ha, hbl⟩ := hrel
        have v1 := keep_below z1 hbl
        have f0 := keep_below e0 hbl
        have f2 := keep_below e2 hbl
        have f3 := keep_below e3 hbl
        by_cases hlt : j < i
        · obtain ⟨b, hx⟩ : ∃ b, ac[j]? = some b := ⟨_, List.getElem?_eq_getElem (by have := HI.out; rw [HB.out.h.al]; omega)⟩
          obtain ⟨g2, o2, hgo, c0, c1, c2, -⟩ := (HX2.out.gw hbl).act hx
          obtain ⟨rfl, rfl⟩ : g2 = g ∧ o2 = o := by simpa [eq_comm] using hgo
          have i2 : (j : Int) < (i : Int) := by omega
          have i3 : (j : Int) < (m : Int) := by have := HI.out; omega
          have l3 : (0 : Int) ≤ (j : Int) := by omega
          have l4 : (j : Int) ≤ 4096 := by omega
          have HTK := Lib.hid (any_take11 (p := wrB at_ ai) hx)
          have HA := Lib.hid ha
          have HLT := Lib.hid hlt
          have HBL := Lib.hid hbl
          have HWR := Lib.hid (show wrB at_ ai b = true → qA = true from fun k => by
            rw [← HQA.out]
            exact List.any_eq_true.2 ⟨b, List.mem_of_getElem? (i := j) (by rw [List.getElem?_take, if_pos hlt]; exact hx), k⟩)
          clear hgo hx ha hj hlt hbl
          obtain ⟨bt, bw, bi, bv⟩ := b
          dsimp only at *
          cases bw
          · have HT := Lib.hid (show (ac.take (j + 1)).any (wrB at_ ai) = false by rw [HTK.out, HA.out]; simp [wrB])
            go_upto_region 9 with fail
            go_quiet (fail)
            go_wp2
            go_roundw
            case rel => exact ⟨j + 1, by go_num, HLT.out, HT.out, below_next HBL.out ⟨rfl, rfl, rfl, Nat.le_refl _, fun _ _ => rfl⟩⟩
            case measure => have := HLT.out; simp [intOf]; omega
          · by_cases ht : bt = at_
            · subst ht
              by_cases hi : bi = ai
              · subst hi
                have HT := Lib.hid (HWR.out (by simp [wrB]))
                go_upto_region 9 with fail
                go_quiet (fail)
                go_wp2
                go_ret
                exact ⟨by rw [HT.out]; rfl, below_next (below_next (below_next BX.out B2.out) HBL.out) ⟨rfl, rfl, rfl, Nat.le_refl _, fun _ _ => rfl⟩⟩
              · have HT := Lib.hid (show (ac.take (j + 1)).any (wrB bt ai) = false by rw [HTK.out, HA.out]; simp [wrB, hi])
                have hi' : (bi.toList == ai.toList) = false := by rw [strEq11]; simpa using hi
                go_upto_region 9 with fail
                go_quiet (fail)
                go_wp2
                go_roundw
                case rel => exact ⟨j + 1, by go_num, HLT.out, HT.out, below_next HBL.out ⟨rfl, rfl, rfl, Nat.le_refl _, fun _ _ => rfl⟩⟩
                case measure => have := HLT.out; simp [intOf]; omega
            · have HT := Lib.hid (show (ac.take (j + 1)).any (wrB at_ ai) = false by rw [HTK.out, HA.out]; simp [wrB, ht])
              have ht' : (bt == at_) = false := by simpa using ht
              go_upto_region 9 with fail
              go_quiet (fail)
              go_wp2
              go_roundw
              case rel => exact ⟨j + 1, by go_num, HLT.out, HT.out, below_next HBL.out ⟨rfl, rfl, rfl, Nat.le_refl _, fun _ _ => rfl⟩⟩
              case measure => have := HLT.out; simp [intOf]; omega
        · obtain rfl : j = i := by omega
          have i2 : ¬ (j : Int) < (j : Int) := by omega
          have HT := Lib.hid (show qA = false by rw [← HQA.out]; exact ha)
          have HBL := Lib.hid hbl
          clear ha hj hlt hbl
          go_wp2
          go_ret
          exact ⟨by rw [HT.out, ← HQV.out]; rfl, below_next (below_next BX.out B2.out) HBL.out⟩
end
end Go.Proofs.YtbmgeobmmpaghaaGreatDoor
