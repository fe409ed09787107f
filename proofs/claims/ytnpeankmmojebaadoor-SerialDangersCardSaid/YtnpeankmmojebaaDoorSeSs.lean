/- Layer 11: the reference's Snapshots. -/
import Derived.Test.YtnpeankmmojebaaDoorSeSn
set_option linter.unusedVariables false
namespace Go.Proofs.YtnpeankmmojebaaDoor
set_option maxRecDepth 100000
open Go.RowKit

open Classical in
noncomputable def snapsB (cs : List Int) (ac : List Ac) : Bool := decide (SnapsP cs ac)
theorem snapsB_yes {cs : List Int} {ac : List Ac} (h : SnapsP cs ac) : snapsB cs ac = true := by unfold snapsB; simpa using h
theorem snapsB_no {cs : List Int} {ac : List Ac} (h : ¬ SnapsP cs ac) : snapsB cs ac = false := by unfold snapsB; simpa using h
section
variable {w : World} {A B : Option Addr} {n c m d : Nat} {cs : List Int} {ac : List Ac}
set_option maxHeartbeats 64000000 in
theorem wrSnapshots (h : Hist w A n c B m d cs ac) (hR : Right cs ac) :
    Calls Tryd.prog 13 #[histV A n c B m d] w fun e w' => e = .returned (.bool (snapsB cs ac)) ∧ Below w.heap.size w w' := by
  obtain ⟨r, hr⟩ : ∃ r, snapsB cs ac = r := ⟨_, rfl⟩
  have HRR := Lib.hid hr
  rw [hr]
  clear hr
  obtain ⟨W0, hB⟩ := h.box
  have HB := Lib.hid hB
  have HW := Lib.hid hB.eq
  have hn : n ≤ 4096 := by rw [← h.cl]; exact hR.lc
  have CS := Lib.hid (fun (W : World) (hW : Below W0.heap.size W0 W) (t : Int) (f : Nat) (ht : t ∈ cs) (hf : f ≤ cs.idxOf t) => wrSnapshot (hB.h.gw hW) hR ht hf)
  have X0 := Lib.hid hB.x0
  have X1 := Lib.hid hB.x1
  have HN := Lib.hid hn
  have HCL := Lib.hid h.cl
  have HND := Lib.hid hR.nd
  unfold histV at CS ⊢
  clear h hB hR hn
  go_enter Tryd.func13, Tryd.ntmps13
  go_upto_region 1 with fail
  rw [HW.out]
  go_upto_region 2 with fail
  go_loopw [3] (fun i wr => ∃ j : Nat, i = .int .i64 (j : Nat) ∧ j ≤ n ∧ (∀ (i : Nat) t, i < j → cs[i]? = some t → ∃ f, f ≤ cs.idxOf t ∧ SnapP cs ac t f) ∧ Below W0.heap.size W0 wr) (fun i _ => n - (intOf i).toNat)
  case atStart => exact ⟨0, rfl, Nat.zero_le _, fun i a hi => absurd hi (Nat.not_lt_zero _), Below.refl _ _⟩
  case round =>
    rename World => wr
    obtain ⟨j, rfl, hj, hok, hb⟩ := hrel
    have y0 := keep_below X0.out hb
    by_cases hlt : j < n
    · obtain ⟨t, ht⟩ : ∃ t, cs[j]? = some t := ⟨_, List.getElem?_eq_getElem (by rw [HCL.out]; exact hlt)⟩
      have hti := idx_of HND.out ht
      have j1 : (j : Int) < (n : Int) := by omega
      have j2 : (j : Int) ≤ 4096 := by have := HN.out; omega
      have HLT := Lib.hid hlt
      have HBL := Lib.hid hb
      have HOK := Lib.hid hok
      have HT := Lib.hid (And.intro (List.mem_of_getElem? ht) hti)
      have HTJ := Lib.hid ht
      clear hj hlt hb hok ht hti
      go_upto_region 6 with fail
      clear y0
      go_loopw [4, 5] (fun s i wy => ∃ (k : Nat) (b : Bool), i = .int .i64 (k : Nat) ∧ s = .bool b ∧ k ≤ j + 1 ∧ (b = true → ∃ f, f ≤ j ∧ SnapP cs ac t f) ∧ (b = false → ∀ f, f < k → ¬ SnapP cs ac t f) ∧ Below W0.heap.size W0 wy) (fun _ i _ => j + 1 - (intOf i).toNat)
      case atStart => exact ⟨0, false, rfl, rfl, Nat.zero_le _, fun e => by (cases e), fun _ f hf => absurd hf (Nat.not_lt_zero _), HBL.out⟩
      case round =>
        rename World => wy
        obtain ⟨k, b, rfl, rfl, hk, hyes, hno, hbx⟩ := hrel
        have BW2 := Lib.hid hbx
        have k4 : (k : Int) ≤ 4096 := by have := HN.out; have := HLT.out; omega
        by_cases hkj : k ≤ j
        · have i1 : (k : Int) ≤ (j : Int) := by omega
          obtain ⟨gA, oA, rfl, cn⟩ := (HB.out.h.gw BW2.out).cb.num HTJ.out
          have k0 := cell_regrown (keep_below X0.out hbx)
          have k1 := cell_regrown (keep_below X1.out hbx)
          have k3 := cell_regrown cn
          have cS := fun d os => Calls.regrown_of (CS.out _ (BW2.out.trans ((below_regrown wy d os).mono BW2.out.size)) t k HT.out.1 (by rw [HT.out.2]; exact hkj))
          have HKJ := Lib.hid hkj
          have HYES := Lib.hid hyes
          have HNO := Lib.hid hno
          obtain ⟨sb, hsb⟩ : ∃ s, snapB cs ac t k = s := ⟨_, rfl⟩
          rw [hsb] at cS
          have HSB := Lib.hid hsb
          clear hk hyes hno hbx hkj cn hsb
          have HNX := Lib.hid (show ((b || sb) = true → ∃ f, f ≤ j ∧ SnapP cs ac t f) ∧ ((b || sb) = false → ∀ f, f < k + 1 → ¬ SnapP cs ac t f) from by
            constructor
            · intro e
              cases b
              · have : SnapP cs ac t k := Classical.byContradiction fun q => by
                  rw [snapB_no q] at HSB
                  have := HSB.out
                  rw [← this] at e; cases e
                exact ⟨k, HKJ.out, this⟩
              · exact HYES.out rfl
            · intro e f hf
              cases b
              · rcases Nat.lt_or_ge f k with q | q
                · exact HNO.out rfl f q
                · have : f = k := by omega
                  subst this
                  intro q
                  rw [snapB_yes q] at HSB
                  rw [← HSB.out] at e; cases e
              · cases e)
          go_upto_region 8 with fail
          cases b
          · refine wp_region_quietH (by kernel_rfl) (by kernel_rfl) ?_
            iterate 12 (
              refine wpQuiet_stepH (fun K hK => ?_)
              go_simp
              first
                | (refine hK _ ?_; clear hK K)
                | (apply Exists.intro
                   refine ⟨fun _ => ?_, hK _ ?_⟩
                   · go_at_call 28; exact cS _ _
                   clear hK K))
            refine wpQuiet_nilH ?_
            intro _ hw'
            obtain ⟨⟨dq, osq⟩, hw''⟩ := hw'
            subst hw''
            obtain ⟨Y, hY⟩ : ∃ Y, Go.Sort.grow (redrawn wy dq) osq = Y := ⟨_, rfl⟩
            have BY := Lib.hid (BW2.out.trans ((show Below wy.heap.size wy Y by rw [← hY]; exact below_regrown wy dq osq).mono BW2.out.size))
            simp only [hY]
            clear hY k0 k1 k3 cS
            go_wp2
            go_roundw
            case rel => exact ⟨k + 1, sb, by go_num, rfl, by have := HKJ.out; omega, HNX.out.1, HNX.out.2, BY.out⟩
            case measure => have := HKJ.out; simp [intOf]; omega
          · refine wp_region_quietH (by kernel_rfl) (by kernel_rfl) ?_
            iterate 12 (
              refine wpQuiet_stepH (fun K hK => ?_)
              go_simp
              first
                | (refine hK _ ?_; clear hK K)
                | (apply Exists.intro
                   refine ⟨fun _ => ?_, hK _ ?_⟩
                   · go_at_call 28; exact cS _ _
                   clear hK K))
            refine wpQuiet_nilH ?_
            intro _ hw'
            obtain ⟨⟨dq, osq⟩, hw''⟩ := hw'
            subst hw''
            obtain ⟨Y, hY⟩ : ∃ Y, Go.Sort.grow (redrawn wy dq) osq = Y := ⟨_, rfl⟩
            have BY := Lib.hid (BW2.out.trans ((show Below wy.heap.size wy Y by rw [← hY]; exact below_regrown wy dq osq).mono BW2.out.size))
            simp only [hY]
            clear hY k0 k1 k3 cS
            go_wp2
            go_roundw
            case rel => exact ⟨k + 1, true, by go_num, rfl, by have := HKJ.out; omega, HNX.out.1, HNX.out.2, BY.out⟩
            case measure => have := HKJ.out; simp [intOf]; omega
        · obtain rfl : k = j + 1 := by omega
          have i1 : ¬ (((j + 1 : Nat) : Int)) ≤ (j : Int) := by omega
          cases b
          · have HNS := Lib.hid (show ¬ SnapsP cs ac from fun s => by
              obtain ⟨f, f1, f2⟩ := s t HT.out.1
              rw [HT.out.2] at f1
              exact hno rfl f (by omega) f2)
            clear hk hyes hno hbx hkj
            go_wp2
            go_ret
            exact ⟨by rw [← HRR.out, snapsB_no HNS.out]; rfl, HB.out.below.trans (BW2.out.mono HB.out.below.size)⟩
          · have HOK2 := Lib.hid (show ∀ (i : Nat) u, i < j + 1 → cs[i]? = some u → ∃ f, f ≤ cs.idxOf u ∧ SnapP cs ac u f from fun i u hi hu => by
              rcases Nat.lt_or_ge i j with p | p
              · exact HOK.out i u p hu
              · have e : i = j := by omega
                rw [e, HTJ.out] at hu; cases hu
                obtain ⟨f, f1, f2⟩ := hyes rfl
                exact ⟨f, by rw [HT.out.2]; exact f1, f2⟩)
            clear hk hyes hno hbx hkj
            go_wp2
            go_roundw
            case rel => exact ⟨j + 1, by go_num, HLT.out, HOK2.out, BW2.out⟩
            case measure => have := HLT.out; simp [intOf]; omega
    · obtain rfl : j = n := by omega
      have HS := Lib.hid (show SnapsP cs ac from fun t ht => by
        obtain ⟨i, hi⟩ := List.mem_iff_getElem?.1 ht
        exact hok i t (by rw [← HCL.out]; exact (List.getElem?_eq_some_iff.1 hi).1) hi)
      have i1 : ¬ (j : Int) < (j : Int) := by omega
      have HBL := Lib.hid hb
      clear hj hlt hb hok
      go_wp2
      go_ret
      exact ⟨by rw [← HRR.out, snapsB_yes HS.out]; rfl, HB.out.below.trans (HBL.out.mono HB.out.below.size)⟩
end
end Go.Proofs.YtnpeankmmojebaaDoor
