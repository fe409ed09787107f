/- Layer 11: the reference's snapshot. -/
import Derived.Test.YtnpeankmmojebaaDoorJBO
import Derived.Test.YtnpeankmmojebaaDoorJBP
set_option linter.unusedVariables false
namespace Go.Proofs.YtnpeankmmojebaaDoor
set_option maxRecDepth 100000
open Go.RowKit

/-- What a snapshot asks of one act. -/
def ActS (cs : List Int) (ac : List Ac) (t : Int) (f : Nat) (a : Ac) : Prop := a.txn = t → if a.wr then ∀ k x, f ≤ k → k < cs.idxOf t → cs[k]? = some x → writesP ac x a.item = false else a.ver = t ∨ a.ver = newestP ac a.item (cs.take f)
open Classical in
noncomputable def snapB (cs : List Int) (ac : List Ac) (t : Int) (f : Nat) : Bool := decide (SnapP cs ac t f)
theorem snapB_yes {cs : List Int} {ac : List Ac} {t : Int} {f : Nat} (h : SnapP cs ac t f) : snapB cs ac t f = true := by unfold snapB; simpa using h
theorem snapB_no {cs : List Int} {ac : List Ac} {t : Int} {f : Nat} (h : ¬ SnapP cs ac t f) : snapB cs ac t f = false := by unfold snapB; simpa using h
section
variable {w : World} {A B : Option Addr} {n c m d : Nat} {cs : List Int} {ac : List Ac} {t : Int} {f : Nat}
set_option maxHeartbeats 64000000 in
theorem wrSnapshot (h : Hist w A n c B m d cs ac) (hR : Right cs ac) (ht : t ∈ cs) (hf : f ≤ cs.idxOf t) :
    Calls Tryd.prog 28 #[histV A n c B m d, .int .i64 t, .int .i64 (f : Nat)] w fun e w' => e = .returned (.bool (snapB cs ac t f)) ∧ Below w.heap.size w w' := by
  obtain ⟨r, hr⟩ : ∃ r, snapB cs ac t f = r := ⟨_, rfl⟩
  have HRR := Lib.hid hr
  rw [hr]
  clear hr
  obtain ⟨W0, hB⟩ := h.box
  have HB := Lib.hid hB
  have HW := Lib.hid hB.eq
  have hn : n ≤ 4096 := by rw [← h.cl]; exact hR.lc
  have hm : m ≤ 4096 := by rw [← h.al]; exact hR.la
  obtain ⟨q, hq⟩ : ∃ q, cs.idxOf t = q := ⟨_, rfl⟩
  have hpl : plcP cs t = (q : Int) := by unfold plcP; rw [if_pos ht, hq]
  have hqn : q < n := by rw [← h.cl, ← hq]; exact List.idxOf_lt_length_of_mem ht
  rw [hq] at hf
  have CP := Lib.hid (fun (W : World) (hW : Below W0.heap.size W0 W) => wrPlace (hB.h.gw hW) hn t)
  rw [hpl] at CP
  have CW := Lib.hid (fun (W : World) (hW : Below W0.heap.size W0 W) (x : Int) (it : ByteArray) => wrWrites (hB.h.gw hW) hm x it)
  have X0 := Lib.hid hB.x0
  have X1 := Lib.hid hB.x1
  have HM := Lib.hid hm
  have HN := Lib.hid hn
  have HQ := Lib.hid (And.intro hq (And.intro hqn hf))
  have q4 : (q : Int) ≤ 4096 := by omega
  have f4 : (f : Int) ≤ 4096 := by omega
  have HCL := Lib.hid h.cl
  have HAL := Lib.hid h.al
  unfold histV at CP CW ⊢
  clear h hB hR ht hf hn hm hq hpl hqn
  go_enter Tryd.func28, Tryd.ntmps28
  go_upto_region 1 with fail
  rw [HW.out]
  go_upto_region 2 with fail
  go_loopw [7] (fun i wr => ∃ j : Nat, i = .int .i64 (j : Nat) ∧ j ≤ m ∧ (∀ (i : Nat) a, i < j → ac[i]? = some a → ActS cs ac t f a) ∧ Below W0.heap.size W0 wr) (fun i _ => m - (intOf i).toNat)
  case atStart => exact ⟨0, rfl, Nat.zero_le _, fun i a hi => absurd hi (Nat.not_lt_zero _), Below.refl _ _⟩
  case round =>
    rename World => wr
    obtain ⟨j, rfl, hj, hok, hb⟩ := hrel
    by_cases hlt : j < m
    · obtain ⟨a, ha⟩ : ∃ a, ac[j]? = some a := ⟨_, List.getElem?_eq_getElem (by rw [HAL.out]; exact hlt)⟩
      obtain ⟨g', o', rfl, c0, c1', c2, c3⟩ := (HB.out.h.gw hb).act ha
      obtain ⟨X, hX⟩ := Ac.box wr a
      have y1 := keep_below X1.out hb
      have j1 : (j : Int) < (m : Int) := by omega
      have j2 : (j : Int) ≤ 4096 := by have := HM.out; omega
      have HLT := Lib.hid hlt
      have HBX := Lib.hid (hb.trans (hX.below.mono hb.size))
      have HX := Lib.hid hX.eq
      have d0 := hX.d0
      have d1 := hX.d1
      have D2 := Lib.hid hX.d2
      have D3 := Lib.hid hX.d3
      have HOK := Lib.hid hok
      have HA := Lib.hid ha
      have HNX := Lib.hid (show ActS cs ac t f a → ∀ (i : Nat) b, i < j + 1 → ac[i]? = some b → ActS cs ac t f b from fun k i b hi hb => by
        rcases Nat.lt_or_ge i j with p | p
        · exact hok i b p hb
        · have e : i = j := by omega
          rw [e, ha] at hb; cases hb; exact k)
      have HNO := Lib.hid (show ¬ ActS cs ac t f a → ¬ SnapP cs ac t f from fun k s => k (s a (List.mem_of_getElem? ha)))
      obtain ⟨at_, aw, ai, av⟩ := a
      dsimp only at *
      clear ha hb hX hj hlt hok
      go_upto_region 5 with fail
      rw [HX.out]
      clear c0 c1' c2 c3 y1
      by_cases hat : at_ = t
      · subst hat
        cases aw
        · have HQA := Lib.hid (show ActS cs ac at_ f ⟨at_, false, ai, av⟩ ↔ av = at_ ∨ av = newestP ac ai (cs.take f) from by
            unfold ActS
            simp)
          go_upto_region 14 with fail
          clear d0 d1
          go_loopw [10, 11] (fun nw i wy => ∃ k : Nat, i = .int .i64 (k : Nat) ∧ nw = .int .i64 (newestP ac ai (cs.take k)) ∧ k ≤ f ∧ Below X.heap.size X wy) (fun _ i _ => f - (intOf i).toNat)
          case atStart => exact ⟨0, rfl, by simp [newestP], Nat.zero_le _, Below.refl _ _⟩
          case round =>
            rename World => wy
            obtain ⟨k, rfl, rfl, hkf, hbx⟩ := hrel
            have BW2 := Lib.hid (HBX.out.trans (hbx.mono HBX.out.size))
            have BX2 := Lib.hid hbx
            have k4 : (k : Int) ≤ 4096 := by omega
            by_cases hlt : k < f
            · obtain ⟨x, hx⟩ : ∃ x, cs[k]? = some x := ⟨_, List.getElem?_eq_getElem (by rw [HCL.out]; have := HQ.out.2.1; have := HQ.out.2.2; omega)⟩
              obtain ⟨gA, oA, rfl, cn⟩ := (HB.out.h.gw BW2.out).cb.num hx
              have i1 : (k : Int) < (f : Int) := by omega
              have kn : (k : Int) < (n : Int) := by have := HQ.out.2.1; have := HQ.out.2.2; omega
              have HLK := Lib.hid hlt
              have CN := Lib.hid cn
              have Z0 := Lib.hid (keep_below X0.out BW2.out)
              have k0 := cell_regrown (keep_below X0.out BW2.out)
              have k1 := cell_regrown (keep_below X1.out BW2.out)
              have k2 := cell_regrown (keep_below D2.out hbx)
              have k3 := cell_regrown cn
              have cW := fun d os => Calls.regrown_of (CW.out _ (BW2.out.trans ((below_regrown wy d os).mono BW2.out.size)) x ai)
              have hnx : newestP ac ai (cs.take (k + 1)) = if writesP ac x ai then x else newestP ac ai (cs.take k) := by
                rw [List.take_add_one, hx, Option.toList_some, newest_snoc]
              clear hkf hbx hlt hx cn
              obtain ⟨v, hv⟩ : ∃ v, newestP ac ai (cs.take k) = v := ⟨_, rfl⟩
              rw [hv] at hnx
              simp only [hv]
              have HV := Lib.hid hv
              clear hv
              cases hwx : writesP ac x ai with
              | true =>
                rw [hwx] at cW hnx
                rw [if_pos rfl] at hnx
                have HNX2 := Lib.hid hnx
                clear hwx hnx
                go_upto_region 16 with fail
                refine wp_region_quietH (by kernel_rfl) (by kernel_rfl) ?_
                iterate 9 (
                  refine wpQuiet_stepH (fun K hK => ?_)
                  go_simp
                  first
                    | (refine hK _ ?_; clear hK K)
                    | (apply Exists.intro
                       refine ⟨fun _ => ?_, hK _ ?_⟩
                       · go_at_call 40; exact cW _ _
                       clear hK K))
                refine wpQuiet_nilH ?_
                intro _ hw'
                obtain ⟨⟨dq, osq⟩, hw''⟩ := hw'
                subst hw''
                obtain ⟨Y, hY⟩ : ∃ Y, Go.Sort.grow (redrawn wy dq) osq = Y := ⟨_, rfl⟩
                have BYX := Lib.hid (BX2.out.trans ((show Below wy.heap.size wy Y by rw [← hY]; exact below_regrown wy dq osq).mono BX2.out.size))
                have BYW := Lib.hid (show Below wy.heap.size wy Y by rw [← hY]; exact below_regrown wy dq osq)
                have BY := Lib.hid (BW2.out.trans ((show Below wy.heap.size wy Y by rw [← hY]; exact below_regrown wy dq osq).mono BW2.out.size))
                simp only [hY]
                clear hY k0 k1 k2 k3 cW
                have u0 := keep_below Z0.out BYW.out
                have u1 := keep_below CN.out BYW.out
                go_wp2
                go_roundw
                case rel => exact ⟨k + 1, by go_num, by rw [HNX2.out], HLK.out, BYX.out⟩
                case measure => have := HLK.out; simp [intOf]; omega
              | false =>
                rw [hwx] at cW hnx
                rw [if_neg (by simp)] at hnx
                have HNX2 := Lib.hid hnx
                clear hwx hnx
                go_upto_region 16 with fail
                refine wp_region_quietH (by kernel_rfl) (by kernel_rfl) ?_
                iterate 9 (
                  refine wpQuiet_stepH (fun K hK => ?_)
                  go_simp
                  first
                    | (refine hK _ ?_; clear hK K)
                    | (apply Exists.intro
                       refine ⟨fun _ => ?_, hK _ ?_⟩
                       · go_at_call 40; exact cW _ _
                       clear hK K))
                refine wpQuiet_nilH ?_
                intro _ hw'
                obtain ⟨⟨dq, osq⟩, hw''⟩ := hw'
                subst hw''
                obtain ⟨Y, hY⟩ : ∃ Y, Go.Sort.grow (redrawn wy dq) osq = Y := ⟨_, rfl⟩
                have BYX := Lib.hid (BX2.out.trans ((show Below wy.heap.size wy Y by rw [← hY]; exact below_regrown wy dq osq).mono BX2.out.size))
                have BYW := Lib.hid (show Below wy.heap.size wy Y by rw [← hY]; exact below_regrown wy dq osq)
                have BY := Lib.hid (BW2.out.trans ((show Below wy.heap.size wy Y by rw [← hY]; exact below_regrown wy dq osq).mono BW2.out.size))
                simp only [hY]
                clear hY k0 k1 k2 k3 cW
                go_wp2
                go_roundw
                case rel => exact ⟨k + 1, by go_num, by rw [HNX2.out], HLK.out, BYX.out⟩
                case measure => have := HLK.out; simp [intOf]; omega
            · obtain rfl : k = f := by omega
              have i1 : ¬ (k : Int) < (k : Int) := by omega
              have e3 := keep_below D3.out hbx
              clear hkf hbx hlt
              obtain ⟨v, hv⟩ : ∃ v, newestP ac ai (cs.take k) = v := ⟨_, rfl⟩
              rw [hv] at HQA
              simp only [hv]
              clear hv
              by_cases h1 : av = at_
              · have HOK2 := Lib.hid (HNX.out (HQA.out.2 (.inl h1)))
                subst h1
                go_wp2
                go_roundw
                case rel => exact ⟨j + 1, by go_num, HLT.out, HOK2.out, BW2.out⟩
                case measure => have := HLT.out; simp [intOf]; omega
              · by_cases h2 : av = v
                · have HOK2 := Lib.hid (HNX.out (HQA.out.2 (.inr h2)))
                  subst h2
                  have e1 : (av == at_) = false := by simpa using h1
                  go_wp2
                  go_roundw
                  case rel => exact ⟨j + 1, by go_num, HLT.out, HOK2.out, BW2.out⟩
                  case measure => have := HLT.out; simp [intOf]; omega
                · have HNS := Lib.hid (HNO.out fun k => (HQA.out.1 k).elim h1 h2)
                  have e1 : (av == at_) = false := by simpa using h1
                  have e2 : (av == v) = false := by simpa using h2
                  have e3 : (av != v) = true := by simpa using h2
                  go_wp2
                  go_ret
                  exact ⟨by rw [← HRR.out, snapB_no HNS.out]; rfl, HB.out.below.trans (BW2.out.mono HB.out.below.size)⟩
        · have HQA := Lib.hid (show ActS cs ac at_ f ⟨at_, true, ai, av⟩ ↔ ∀ k x, f ≤ k → k < q → cs[k]? = some x → writesP ac x ai = false from by
            unfold ActS
            rw [HQ.out.1]
            simp)
          go_upto_region 8 with fail
          clear d0 d1
          go_loopw [9] (fun i wy => ∃ k : Nat, i = .int .i64 (k : Nat) ∧ f ≤ k ∧ k ≤ q ∧ (∀ (p : Nat) x, f ≤ p → p < k → cs[p]? = some x → writesP ac x ai = false) ∧ Below X.heap.size X wy) (fun i _ => q - (intOf i).toNat)
          case atStart => exact ⟨f, rfl, Nat.le_refl _, HQ.out.2.2, fun p x h1 h2 => absurd h1 (by omega), Below.refl _ _⟩
          case round =>
            rename World => wx
            obtain ⟨k, rfl, hfk, hkq, hno, hbx⟩ := hrel
            have HBW := Lib.hid (HBX.out.trans (hbx.mono HBX.out.size))
            have z0 := keep_below X0.out HBW.out
            have z1 := keep_below X1.out HBW.out
            have e2 := keep_below D2.out hbx
            have k4 : (k : Int) ≤ 4096 := by omega
            by_cases hlt : k < q
            · obtain ⟨x, hx⟩ : ∃ x, cs[k]? = some x := ⟨_, List.getElem?_eq_getElem (by rw [HCL.out]; have := HQ.out.2.1; omega)⟩
              obtain ⟨gA, oA, rfl, cn⟩ := (HB.out.h.gw HBW.out).cb.num hx
              have i1 : (k : Int) < (q : Int) := by omega
              have kn : (k : Int) < (n : Int) := by have := HQ.out.2.1; omega
              have HLK := Lib.hid (And.intro hlt hfk)
              cases hwx : writesP ac x ai with
              | true =>
                have HNS := Lib.hid (HNO.out fun k => by rw [HQA.out.1 k _ x hfk hlt hx] at hwx; cases hwx)
                clear hfk hkq hno hbx hlt hx
                go_upto_region 10 with (go_at_call 24; go_loud (refine (CP.out _ HBW.out).mono ?_; rintro e wy ⟨rfl, b2⟩; have BW2 := Lib.hid (HBW.out.trans (b2.mono HBW.out.size)); have k0 := cell_regrown (keep_below z0 b2); have k1 := cell_regrown (keep_below z1 b2); have k2 := cell_regrown (keep_below e2 b2); have k3 := cell_regrown (keep_below cn b2); clear b2 z0 z1 e2 cn))
                have cW := fun d os => Calls.regrown_of (CW.out _ (BW2.out.trans ((below_regrown wy d os).mono BW2.out.size)) x ai)
                rw [hwx] at cW
                clear hwx
                refine wp_region_quietH (by kernel_rfl) (by kernel_rfl) ?_
                iterate 9 (
                  refine wpQuiet_stepH (fun K hK => ?_)
                  go_simp
                  first
                    | (refine hK _ ?_; clear hK K)
                    | (apply Exists.intro
                       refine ⟨fun _ => ?_, hK _ ?_⟩
                       · go_at_call 40; exact cW _ _
                       clear hK K))
                refine wpQuiet_nilH ?_
                intro _ hw'
                obtain ⟨⟨dq, osq⟩, hw''⟩ := hw'
                subst hw''
                obtain ⟨Y, hY⟩ : ∃ Y, Go.Sort.grow (redrawn wy dq) osq = Y := ⟨_, rfl⟩
                have BY := Lib.hid (BW2.out.trans ((show Below wy.heap.size wy Y by rw [← hY]; exact below_regrown wy dq osq).mono BW2.out.size))
                simp only [hY]
                clear hY k0 k1 k2 k3 cW
                go_wp2
                go_ret
                exact ⟨by rw [← HRR.out, snapB_no HNS.out]; rfl, HB.out.below.trans (BY.out.mono HB.out.below.size)⟩
              | false =>
                have HNK := Lib.hid (show ∀ (p : Nat) y, f ≤ p → p < k + 1 → cs[p]? = some y → writesP ac y ai = false from fun p y h1 h2 hy => by
                  rcases Nat.lt_or_ge p k with u | u
                  · exact hno p y h1 u hy
                  · have e : p = k := by omega
                    rw [e, hx] at hy; cases hy; exact hwx)
                clear hfk hkq hno hlt hx
                have HBXX := Lib.hid hbx
                clear hbx
                go_upto_region 10 with (go_at_call 24; go_loud (refine (CP.out _ HBW.out).mono ?_; rintro e wy ⟨rfl, b2⟩; have BW2 := Lib.hid (HBW.out.trans (b2.mono HBW.out.size)); have BX2 := Lib.hid (HBXX.out.trans (b2.mono HBXX.out.size)); have k0 := cell_regrown (keep_below z0 b2); have k1 := cell_regrown (keep_below z1 b2); have k2 := cell_regrown (keep_below e2 b2); have k3 := cell_regrown (keep_below cn b2); clear b2 z0 z1 e2 cn))
                have cW := fun d os => Calls.regrown_of (CW.out _ (BW2.out.trans ((below_regrown wy d os).mono BW2.out.size)) x ai)
                rw [hwx] at cW
                clear hwx
                refine wp_region_quietH (by kernel_rfl) (by kernel_rfl) ?_
                iterate 9 (
                  refine wpQuiet_stepH (fun K hK => ?_)
                  go_simp
                  first
                    | (refine hK _ ?_; clear hK K)
                    | (apply Exists.intro
                       refine ⟨fun _ => ?_, hK _ ?_⟩
                       · go_at_call 40; exact cW _ _
                       clear hK K))
                refine wpQuiet_nilH ?_
                intro _ hw'
                obtain ⟨⟨dq, osq⟩, hw''⟩ := hw'
                subst hw''
                obtain ⟨Y, hY⟩ : ∃ Y, Go.Sort.grow (redrawn wy dq) osq = Y := ⟨_, rfl⟩
                have BYX := Lib.hid (BX2.out.trans ((show Below wy.heap.size wy Y by rw [← hY]; exact below_regrown wy dq osq).mono BX2.out.size))
                have BY := Lib.hid (BW2.out.trans ((show Below wy.heap.size wy Y by rw [← hY]; exact below_regrown wy dq osq).mono BW2.out.size))
                simp only [hY]
                clear hY k0 k1 k2 k3 cW
                go_wp2
                go_roundw
                case rel => exact ⟨k + 1, by go_num, Nat.le_succ_of_le HLK.out.2, HLK.out.1, HNK.out, BYX.out⟩
                case measure => have := HLK.out; simp [intOf]; omega
            · obtain rfl : k = q := by omega
              have i1 : ¬ (k : Int) < (k : Int) := by omega
              have HOK2 := Lib.hid (HNX.out (HQA.out.2 hno))
              clear hfk hkq hno hlt
              have HBXX := Lib.hid hbx
              clear hbx
              go_wp2_with (go_at_call 24; go_loud (refine (CP.out _ HBW.out).mono ?_; rintro e wy ⟨rfl, b2⟩; have BW2 := Lib.hid (HBW.out.trans (b2.mono HBW.out.size)); clear b2))
              go_roundw
              case rel => exact ⟨j + 1, by go_num, HLT.out, HOK2.out, BW2.out⟩
              case measure => have := HLT.out; simp [intOf]; omega
      · have HOK2 := Lib.hid (HNX.out fun k => absurd k hat)
        have e1 : ¬ at_ = t := hat
        go_wp2
        go_roundw
        case rel => exact ⟨j + 1, by go_num, HLT.out, HOK2.out, HBX.out⟩
        case measure => have := HLT.out; simp [intOf]; omega
    · obtain rfl : j = m := by omega
      have HS := Lib.hid (show SnapP cs ac t f from fun a ha => by
        obtain ⟨i, hi⟩ := List.mem_iff_getElem?.1 ha
        exact hok i a (by rw [← HAL.out]; exact (List.getElem?_eq_some_iff.1 hi).1) hi)
      have y1 := keep_below X1.out hb
      have i1 : ¬ (j : Int) < (j : Int) := by omega
      have HBL := Lib.hid hb
      clear hj hlt hb hok
      go_wp2
      go_ret
      exact ⟨by rw [← HRR.out, snapB_yes HS.out]; rfl, HB.out.below.trans (HBL.out.mono HB.out.below.size)⟩
end
end Go.Proofs.YtnpeankmmojebaaDoor
