/- LexisNames: Words, and Name of any text. -/
import Derived.Test.YtagangneoibbcaaDoorLyRn
import Derived.Lib.QuietBelow
set_option linter.unusedVariables false
namespace Go.Proofs.YtagangneoibbcaaDoor
set_option maxRecDepth 100000
set_option maxRecDepth 100000
open Go.RowKit Go.Sort

def wordsOk : Bool := wordsL.all fun u => !nameB u && nameB (u ++ ⟨#[95]⟩) && decide (u.size ≤ 7)
theorem words_ok : wordsOk = true := by kernel_rfl
theorem word_name {j : Nat} {u : ByteArray} (h : wordsL[j]? = some u) : nameB u = false ∧ nameB (u ++ ⟨#[95]⟩) = true ∧ u.size ≤ 7 := by
  have := List.all_eq_true.1 words_ok u (List.mem_of_getElem? h)
  simp only [Bool.and_eq_true, Bool.not_eq_true', decide_eq_true_eq] at this
  exact ⟨this.1.1, this.1.2, this.2⟩
/-- The law's own copy of the words, spoilt ahead of j. -/
def NmAt (W2 : World) (g1 j : Nat) (wr : World) : Prop :=
  Out (fun k => k = g1) W2 wr ∧ (∀ m u, j ≤ m → wordsL[m]? = some u → wr.cell? ⟨g1, m, none⟩ = some (.string u)) ∧ (∀ m, m < 27 → wr.frozen? ⟨g1, m, none⟩ = false) ∧ g1 < wr.heap.size
theorem NmAt.below {W2 wr Y : World} {g1 j : Nat} (h : NmAt W2 g1 j wr) (hb : Below wr.heap.size wr Y) : NmAt W2 g1 j Y :=
  ⟨h.1.then (Out.of_below hb _), fun m u hm hu => keep_below (h.2.1 m u hm hu) hb, fun m hm => (hb.frozen (p := ⟨g1, m, none⟩) h.2.2.2).trans (h.2.2.1 m hm), by have := hb.size; have := h.2.2.2; omega⟩
theorem NmAt.step {W2 wr : World} {g1 j : Nat} (h : NmAt W2 g1 j wr) (v : Value) : NmAt W2 g1 (j + 1) (wr.setCell ⟨g1, j, none⟩ v) :=
  ⟨h.1.setCell (p := ⟨g1, j, none⟩) (.inl rfl) _, fun m u hm hu => (World.cell?_setCell_other (w := wr) (a := ⟨g1, j, none⟩) (b := ⟨g1, m, none⟩) (v := v) (fun e => by injection e with e1 e2; omega)).trans (h.2.1 m u (by omega) hu), fun m hm => by rw [World.frozen?_setCell]; exact h.2.2.1 m hm, by simpa [World.setCell] using h.2.2.2⟩
set_option maxHeartbeats 32000000 in
theorem walk_LexisNames (s : ByteArray) (w : World) (hew : ErrAt w ∧ WordsAt w) (hs : s.size ≤ 140737488351232) :
    Calls Tryd.prog 5 #[.string s] w fun e w' => e = .returned (.bool true) ∧ Below w.heap.size w w' := by
  obtain ⟨he, hwd⟩ := hew
  have HE := Lib.hid he
  have HWD := Lib.hid (fun X (hX : Below w.heap.size w X) => (hwd.below hX : WordsAt X))
  have HER := Lib.hid (fun X (hX : Below w.heap.size w X) => (he.below hX : ErrAt X))
  have C1 := Lib.hid fun W (h : WordsAt W) => wWords W h
  have C2 := Lib.hid fun W => wrWords W
  have CN := Lib.hid fun u W (h : WordsAt W) (he : ErrAt W) (hu : u.size ≤ 140737488351232) => wName u W h he hu
  have CR := Lib.hid fun W => wrName s W hs
  have HS := Lib.hid hs
  have B0 := Lib.hid (Below.refl w.heap.size w)
  clear he hwd hs
  go_enter Tryd.func5, Tryd.ntmps5
  go_upto_region 5 with (first
    | (go_at_call 17; go_loud (refine (C2.out _).mono ?_; rintro e W2 ⟨g2, rfl, hg2, hr2, hb2⟩; have HG2 := Lib.hid hg2; have HR2 := Lib.hid hr2; have HB2 := Lib.hid hb2; clear hg2 hr2 hb2))
    | (go_at_call 16; go_loud (refine (C1.out _ (HWD.out _ B0.out)).mono ?_; rintro e W1 ⟨g1, rfl, hg1, hr1, ht1, hb1⟩; have HG1 := Lib.hid hg1; have HR1 := Lib.hid hr1; have HT1 := Lib.hid ht1; have HB1 := Lib.hid hb1; clear hg1 hr1 ht1 hb1)))
  have BW := Lib.hid (below_next HB1.out HB2.out)
  have HLT := Lib.hid (show g1 < W1.heap.size from World.block_lt_of_cell? W1 ⟨g1, 0 + 0, none⟩ (HR1.out 0 (.string ⟨#[97, 100, 100]⟩) rfl))
  have N0 := Lib.hid (show NmAt W2 g1 0 W2 from ⟨Out.refl _ _, fun m u _ hu => keep_below (by have := HR1.out m (.string u) (by unfold wordsV; rw [List.getElem?_map, hu]; rfl); rwa [Nat.zero_add] at this) HB2.out, fun m hm => (HB2.out.frozen (p := ⟨g1, m, none⟩) HLT.out).trans (by have := (HT1.out m hm).2; rwa [Nat.zero_add] at this), by have := HB2.out.size; have := HLT.out; omega⟩)
  have HNE := Lib.hid (show g2 ≠ g1 by have := HG2.out; have := HLT.out; omega)
  have HBW := Lib.hid (show ∀ X, Out (fun k => k = g1) W2 X → Below w.heap.size w X from fun X o => BW.out.trans (o.below (B := w.heap.size) BW.out.size (fun i hi e => by have e : i = g1 := e; have := HG1.out; omega)))
  have HC2 := Lib.hid (show ∀ X m u, Out (fun k => k = g1) W2 X → wordsL[m]? = some u → X.cell? ⟨g2, m, none⟩ = some (.string u) from fun X m u o hu => o.cell (by have := HR2.out m (.string u) (by unfold wordsV; rw [List.getElem?_map, hu]; rfl); rwa [Nat.zero_add] at this) (fun e => HNE.out e))
  go_wp2
  go_loopw [16] (fun v wr => ∃ j : Nat, v = .int .i64 (j : Nat) ∧ j ≤ 27 ∧ NmAt W2 g1 j wr) (fun v _ => 27 - (intOf v).toNat)
  case atStart => exact ⟨0, rfl, by omega, N0.out⟩
  case round =>
    rename World => wr
    obtain ⟨j, rfl, hj, hnm⟩ := hrel
    have NM := Lib.hid hnm
    by_cases hlt : j < 27
    · obtain ⟨u, hu⟩ : ∃ u, wordsL[j]? = some u := ⟨_, List.getElem?_eq_getElem (show j < wordsL.length from hlt)⟩
      obtain ⟨hu1, hu2, hu3⟩ := word_name hu
      have i1 : (j : Int) < 27 := by omega
      have k1 := cell_regrown (hnm.2.1 j u (Nat.le_refl _) hu)
      have k2 := cell_regrown (HC2.out wr j u hnm.1 hu)
      have HB := Lib.hid (HBW.out wr hnm.1)
      have HBG := Lib.hid (show ∀ d os, Below w.heap.size w (grow (redrawn wr d) os) from fun d os => HB.out.trans ((below_regrown wr d os).mono HB.out.size))
      have cN1 : ∀ d os, Calls Tryd.prog 18 #[.string u] (grow (redrawn wr d) os) fun e w'' => e = .returned (.bool false) ∧ ∃ p : Regrown, w'' = grow (redrawn wr p.d) p.os := fun d os => Calls.regrown_of (by have := CN.out u _ (HWD.out _ (HBG.out d os)) (HER.out _ (HBG.out d os)) (by omega); rwa [hu1] at this)
      have cN2 : ∀ d os, Calls Tryd.prog 18 #[.string (u ++ ⟨#[95]⟩)] (grow (redrawn wr d) os) fun e w'' => e = .returned (.bool true) ∧ ∃ p : Regrown, w'' = grow (redrawn wr p.d) p.os := fun d os => Calls.regrown_of (by have := CN.out (u ++ ⟨#[95]⟩) _ (HWD.out _ (HBG.out d os)) (HER.out _ (HBG.out d os)) (by rw [ByteArray.size_append]; have : (⟨#[95]⟩ : ByteArray).size = 1 := rfl; omega); rwa [hu2] at this)
      have n1 : ¬ 9223372036854775807 < u.size + 1 := by omega
      obtain ⟨u5, hu5⟩ : ∃ x, u ++ ⟨#[95]⟩ = x := ⟨_, rfl⟩
      rw [hu5] at cN2
      have HLT2 := Lib.hid hlt
      have HU := Lib.hid hu
      clear hu hu1 hu2 hu3 hnm hj hlt
      go_upto_region 8 with fail
      refine wp_region_quiet_below (by kernel_rfl) (by kernel_rfl) ?_
      iterate 22 (quiet_step (exact cN1 _ _))
      iterate 3 (quiet_step (exact cN2 _ _))
      refine wpQuiet_nil ?_
      intro _ hw'
      obtain ⟨⟨dq, osq⟩, hw''⟩ := hw'
      subst hw''
      obtain ⟨Y, hY⟩ : ∃ Y, grow (redrawn wr dq) osq = Y := ⟨_, rfl⟩
      have BY := Lib.hid (show Below wr.heap.size wr Y by rw [← hY]; exact below_regrown wr dq osq)
      simp only [hY]
      clear hY k1 k2 cN1 cN2 n1 hu5
      have NY := NM.out.below BY.out
      have cY := NY.2.1 j u (Nat.le_refl _) HU.out
      have fY := NY.2.2.1 j HLT2.out
      have NY2 := Lib.hid (NY.step (.string ⟨#[115, 112, 111, 105, 108, 116]⟩))
      clear NY
      go_wp2
      go_roundw
      case rel => exact ⟨j + 1, by go_num, by have := HLT2.out; omega, NY2.out⟩
      case measure => have := HLT2.out; simp [intOf]; omega
    · obtain rfl : j = 27 := by omega
      have HB := Lib.hid (HBW.out wr hnm.1)
      have c2 := HC2.out wr 0 ⟨#[97, 100, 100]⟩ hnm.1 rfl
      clear hj hlt hnm
      go_upto_region 13 with (go_at_call 16; go_loud (refine (C1.out _ (HWD.out _ HB.out)).mono ?_; rintro e w3 ⟨g3, rfl, -, hr3, -, hb3⟩; have HB3 := Lib.hid hb3; have k3 := cell_regrown (show w3.cell? ⟨g3, 0, none⟩ = some (.string ⟨#[97, 100, 100]⟩) from hr3 0 _ rfl); have k2 := cell_regrown (keep_below c2 hb3); clear hr3 hb3))
      clear c2
      have HB4 := Lib.hid (below_next HB.out HB3.out)
      have HBG := Lib.hid (show ∀ d os, Below w.heap.size w (grow (redrawn w3 d) os) from fun d os => HB4.out.trans ((below_regrown w3 d os).mono HB4.out.size))
      obtain ⟨q, hq⟩ : ∃ q, nameB s = q := ⟨_, rfl⟩
      have cN : ∀ d os, Calls Tryd.prog 18 #[.string s] (grow (redrawn w3 d) os) fun e w'' => e = .returned (.bool q) ∧ ∃ p : Regrown, w'' = grow (redrawn w3 p.d) p.os := fun d os => Calls.regrown_of (by have := CN.out s _ (HWD.out _ (HBG.out d os)) (HER.out _ (HBG.out d os)) HS.out; rwa [hq] at this)
      have cR : ∀ d os, Calls Tryd.prog 19 #[.string s] (grow (redrawn w3 d) os) fun e w'' => e = .returned (.bool q) ∧ ∃ p : Regrown, w'' = grow (redrawn w3 p.d) p.os := fun d os => Calls.regrown_of (by have := CR.out (grow (redrawn w3 d) os); rwa [hq] at this)
      clear hq
      refine wp_region_quiet_below (by kernel_rfl) (by kernel_rfl) ?_
      iterate 17 (quiet_step (exact cN _ _))
      iterate 5 (quiet_step (exact cR _ _))
      refine wpQuiet_nil ?_
      intro _ hw'
      obtain ⟨⟨dq, osq⟩, hw''⟩ := hw'
      subst hw''
      go_wp2
      go_ret
      exact ⟨by simp, HBG.out dq osq⟩
end Go.Proofs.YtagangneoibbcaaDoor
