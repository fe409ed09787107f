/- Layer 12: the reference's Words and Name. -/
import Derived.Test.YtagangneoibbcaaDoorLyNm
import Derived.Test.YtagangneoibbcaaDoorLyR
set_option linter.unusedVariables false
namespace Go.Proofs.YtagangneoibbcaaDoor
set_option maxRecDepth 100000
set_option maxRecDepth 100000
open Go.RowKit

/-- The words in a list of the call's own. -/
def WordsR (w : World) (e : Ending) (w' : World) : Prop := ∃ g, e = .returned (.slice (some ⟨g, 0, none⟩) 27 27) ∧ w.heap.size ≤ g ∧ w'.rangeAt g 0 wordsV ∧ Below w.heap.size w w'
set_option maxHeartbeats 8000000 in
theorem wrWords (w : World) : Calls Tryd.prog 17 #[] w (WordsR w) := by
  go_enter Tryd.func17, Tryd.ntmps17
  go_wp2
  go_ret
  refine ⟨w.heap.size, rfl, Nat.le_refl _, ?_, (Below.refl _ _).alloc (Nat.le_refl _) _⟩
  intro j v hj
  rw [Nat.zero_add, cell_of_row _ _ _ _ _ _ (heap_alloc_new w _), ← hj]
  simp [wordsV, wordsL]
theorem nameB_no {s : ByteArray} (h : nameOk s = false) : nameB s = false := by unfold nameB; rw [h]; rfl
theorem nameOk_inner {s : ByteArray} {i : Nat} (hi : i < s.size) (h : innB (chP (strB s) i) = false) : nameOk s = false := by
  unfold nameOk
  have : (strB s).all innB = false := by
    rw [List.all_eq_false]
    refine ⟨chP (strB s) i, ?_, by rw [h]; simp⟩
    have hl : i < (strB s).length := by rw [strB_len]; exact hi
    have := chP_in hl
    have h2 : (strB s)[i]? = some (chP (strB s) i) := by
      have h3 : ((strB s).drop i)[0]? = some (chP (strB s) i) := by rw [this]; rfl
      simpa using h3
    exact List.mem_of_getElem? h2
  rw [this, Bool.and_false]
theorem nameOk_all {s : ByteArray} (h1 : 1 ≤ s.size) (h2 : s.size ≤ 32) (h3 : lowB (chP (strB s) 0) = true) (h4 : ∀ m, m < s.size → innB (chP (strB s) m) = true) : nameOk s = true := by
  unfold nameOk
  rw [decide_eq_true h1, decide_eq_true h2, h3]
  simp only [Bool.true_and]
  rw [List.all_eq_true]
  intro z hz
  obtain ⟨m, hm⟩ := List.getElem?_of_mem hz
  have hl : m < (strB s).length := (List.getElem?_eq_some_iff.1 hm).1
  have h5 := h4 m (by rw [← strB_len]; exact hl)
  have : chP (strB s) m = z := by simp [chP, List.getD_eq_getElem?_getD, hm]
  rwa [this] at h5
set_option maxHeartbeats 16000000 in
theorem wrName (s : ByteArray) (w : World) (hs : s.size ≤ 140737488351232) : Calls Tryd.prog 19 #[.string s] w fun e w' => e = .returned (.bool (nameB s)) ∧ Below w.heap.size w w' := by
  have CWD := Lib.hid fun W => wrWords W
  obtain ⟨q, hq⟩ : ∃ q, nameB s = q := ⟨_, rfl⟩
  have HQ := Lib.hid hq
  have NF := Lib.hid (show nameOk s = false → q = false from fun h => by rw [← hq]; exact nameB_no h)
  rw [hq]
  clear hq
  by_cases h1 : s.size < 1
  · have i1 : (s.size : Int) < 1 := by omega
    have FQ := Lib.hid (NF.out (by unfold nameOk; rw [decide_eq_false (by omega)]; rfl))
    go_enter Tryd.func19, Tryd.ntmps19
    go_wp2
    go_ret
    exact ⟨ret_bool FQ.out.symm, Below.refl _ _⟩
  by_cases h2 : 32 < s.size
  · have i1 : ¬ (s.size : Int) < 1 := by omega
    have i2 : (32 : Int) < (s.size : Int) := by omega
    have FQ := Lib.hid (NF.out (by unfold nameOk; rw [decide_eq_false (show ¬ s.size ≤ 32 by omega)]; simp))
    go_enter Tryd.func19, Tryd.ntmps19
    go_wp2
    go_ret
    exact ⟨ret_bool FQ.out.symm, Below.refl _ _⟩
  have i1 : ¬ (s.size : Int) < 1 := by omega
  have i2 : ¬ (32 : Int) < (s.size : Int) := by omega
  have hz : 0 < s.size := by omega
  have z1 : (0 : Int) < (s.size : Int) := by omega
  have CL := Lib.hid fun W => wrLow ((s[0]'hz).toNat : Int) W
  have hb0 := (s[0]'hz).toNat_lt
  have H0 := Lib.hid (chP_at s 0 hz)
  rcases hl : lowB ((s[0]'hz).toNat : Int) with _ | _
  · rw [hl] at CL
    have FQ := Lib.hid (NF.out (by unfold nameOk; rw [H0.out, hl]; simp))
    clear hl
    go_enter Tryd.func19, Tryd.ntmps19
    go_wp2_with (go_at_call 33; refine (CL.out _).mono ?_; rintro e w1 ⟨rfl, rfl⟩)
    go_ret
    exact ⟨ret_bool FQ.out.symm, Below.refl _ _⟩
  · rw [hl] at CL
    have HL0 := Lib.hid (show lowB (chP (strB s) 0) = true by rw [H0.out]; exact hl)
    have HSZ := Lib.hid (show 1 ≤ s.size ∧ s.size ≤ 32 by omega)
    clear hl h1 h2
    go_enter Tryd.func19, Tryd.ntmps19
    go_upto_region 4 with (go_at_call 33; refine (CL.out _).mono ?_; rintro e w1 ⟨rfl, rfl⟩)
    clear CL z1 hb0 i1 i2
    go_loop [3] (fun v => ∃ i : Nat, v = .int .i64 (i : Nat) ∧ i ≤ s.size ∧ ∀ m, m < i → innB (chP (strB s) m) = true) (fun v => s.size - (intOf v).toNat)
    case atStart => exact ⟨0, rfl, by omega, fun m hm => by omega⟩
    case round =>
      obtain ⟨i, rfl, hi, hall⟩ := hrel
      have HALL := Lib.hid hall
      clear hall
      by_cases hlt : i < s.size
      · have hb := (s[i]'hlt).toNat_lt
        have i1 : (i : Int) < (s.size : Int) := by omega
        have CI := Lib.hid fun W => wrInner ((s[i]'hlt).toNat : Int) W
        have HI := Lib.hid (chP_at s i hlt)
        rcases hn : innB ((s[i]'hlt).toNat : Int) with _ | _
        · rw [hn] at CI
          have FQ := Lib.hid (NF.out (nameOk_inner hlt (by rw [HI.out]; exact hn)))
          clear hn
          go_wp2_with (go_at_call 34; refine (CI.out _).mono ?_; rintro e w1 ⟨rfl, rfl⟩)
          go_ret
          exact ⟨ret_bool FQ.out.symm, Below.refl _ _⟩
        · rw [hn] at CI
          have HN2 := Lib.hid (show ∀ m, m < i + 1 → innB (chP (strB s) m) = true from fun m hm => by
            by_cases hmi : m = i
            · rw [hmi, HI.out]; exact hn
            · exact HALL.out m (by omega))
          have hsz := HSZ.out.2
          clear hn
          go_wp2_with (go_at_call 34; refine (CI.out _).mono ?_; rintro e w1 ⟨rfl, rfl⟩)
          go_round
          case rel => exact ⟨i + 1, by go_num, by omega, HN2.out⟩
          case measure => simp [intOf]; omega
      · obtain rfl : i = s.size := by omega
        have i1 : ¬ (s.size : Int) < (s.size : Int) := by omega
        have HOK := Lib.hid (nameOk_all HSZ.out.1 HSZ.out.2 HL0.out HALL.out)
        have YES := Lib.hid (show ∀ m, wordsL[m]? = some s → q = false from fun m hm => by rw [← HQ.out]; unfold nameB; rw [isWordB_yes hm, HOK.out]; rfl)
        have NO := Lib.hid (show (∀ m, m < 27 → wordsL[m]? ≠ some s) → q = true from fun hm => by rw [← HQ.out]; unfold nameB; rw [isWordB_no hm, HOK.out]; rfl)
        clear hi hlt
        go_upto_region 10 with (go_at_call 17; go_loud (refine (CWD.out _).mono ?_; rintro e w1 ⟨g, rfl, hg, hr, hb⟩; have HR := Lib.hid hr; have HB := Lib.hid hb; clear hr hb hg))
        go_loop [5] (fun v => ∃ j : Nat, v = .int .i64 (j : Nat) ∧ j ≤ 27 ∧ ∀ m, m < j → wordsL[m]? ≠ some s) (fun v => 27 - (intOf v).toNat)
        case atStart => exact ⟨0, rfl, by omega, fun m hm => by omega⟩
        case round =>
          obtain ⟨j, rfl, hj, hno⟩ := hrel
          have HNO := Lib.hid hno
          clear hno
          by_cases hlt : j < 27
          · obtain ⟨u, hu⟩ : ∃ u, wordsL[j]? = some u := ⟨_, List.getElem?_eq_getElem (show j < wordsL.length from hlt)⟩
            have HU := Lib.hid hu
            have i1 : (j : Int) < 27 := by omega
            have c1 : w1.cell? ⟨g, j, none⟩ = some (.string u) := by
              have := HR.out j (.string u) (by unfold wordsV; rw [List.getElem?_map, hu]; rfl)
              rwa [Nat.zero_add] at this
            clear hu
            by_cases he : u = s
            · subst he
              have HQ2 := Lib.hid (YES.out j HU.out)
              go_wp2
              go_ret
              exact ⟨ret_bool HQ2.out.symm, HB.out⟩
            · have hne : (u.toList == s.toList) = false := by simpa using toList_ne he
              have HN2 := Lib.hid (show ∀ m, m < j + 1 → wordsL[m]? ≠ some s from fun m hm => by
                by_cases hmj : m = j
                · rw [hmj, HU.out]; intro e; exact he (Option.some.inj e)
                · exact HNO.out m (by omega))
              clear he
              go_wp2
              go_round
              case rel => exact ⟨j + 1, by go_num, by omega, HN2.out⟩
              case measure => simp [intOf]; omega
          · obtain rfl : j = 27 := by omega
            have HQ2 := Lib.hid (NO.out HNO.out)
            go_wp2
            go_ret
            exact ⟨ret_bool HQ2.out.symm, HB.out⟩
end Go.Proofs.YtagangneoibbcaaDoor
