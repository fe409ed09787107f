/- Layer 12: isWord, the reference's Words. -/
import Derived.Test.YtagangneoibbcaaDoorLyWs
set_option linter.unusedVariables false
namespace Go.Proofs.YtagangneoibbcaaDoor
set_option maxRecDepth 100000
set_option maxRecDepth 100000
open Go.RowKit

theorem run_idx {j : Nat} {u : ByteArray} (hu : wordsL[j]? = some u) (W : World) : (Instr.index 55 (.agg wordsV.toArray) (.int .i64 (j : Nat))).run Tryd.prog W = .ok (.string u) W := by
  have hj : j < 27 := (List.getElem?_eq_some_iff.1 hu).1
  have hv : wordsV[j]? = some (.string u) := by unfold wordsV; rw [List.getElem?_map, hu]; rfl
  have hz : (Tryd.prog.info? 9).map (·.size) = some 1 := by kernel_rfl
  have h0 : (0 : Int) ≤ (j : Int) ∧ (j : Int) < 27 := by omega
  simp [Instr.index, run_underlying Tryd.underlying55, asIntOf, h0, go_sem, hv]
  intro h; omega
theorem toList_ne {u s : ByteArray} (h : u ≠ s) : ¬ u.toList = s.toList := fun e => h (by
  rw [show u.toList = u.data.toList from Go.ByteArray.toList_eq u, show s.toList = s.data.toList from Go.ByteArray.toList_eq s] at e
  exact ByteArray.ext (Array.ext' e))
def isWordB (s : ByteArray) : Bool := wordsL.any fun u => u.data == s.data
theorem isWordB_no {s : ByteArray} (h : ∀ m, m < 27 → wordsL[m]? ≠ some s) : isWordB s = false := by
  unfold isWordB
  rw [List.any_eq_false]
  intro u hu hd
  obtain ⟨m, hm⟩ := List.getElem?_of_mem hu
  have hml : m < 27 := (List.getElem?_eq_some_iff.1 hm).1
  have : u = s := ByteArray.ext (by simpa using hd)
  subst this
  exact h m hml hm
theorem isWordB_yes {s : ByteArray} {m : Nat} (h : wordsL[m]? = some s) : isWordB s = true := by
  unfold isWordB
  rw [List.any_eq_true]
  exact ⟨s, List.mem_of_getElem? h, by simp⟩
set_option maxHeartbeats 4000000 in
theorem wIsWord (s : ByteArray) (w : World) (h : WordsAt w) : Calls Tryd.prog 32 #[.string s] w fun e w' => e = .returned (.bool (isWordB s)) ∧ w = w' := by
  have HW := Lib.hid (show w.rangeAt 0 0 wordsV from h)
  have HI := Lib.hid (show (Tryd.prog.info? 55).map (·.size) = some wordsV.length by rfl)
  have NO := Lib.hid (fun h => isWordB_no (s := s) h)
  have YES := Lib.hid (fun m h => isWordB_yes (s := s) (m := m) h)
  obtain ⟨q, hq⟩ : ∃ q, isWordB s = q := ⟨_, rfl⟩
  rw [hq] at NO YES ⊢
  clear h hq
  go_enter Tryd.func32, Tryd.ntmps32
  go_wp2_with (with_reducible refine wpList_load_mid rfl 55 (.global 0) rfl 0 0 rfl wordsV _ HW.out Tryd.underlying55 rfl HI.out ?_)
  go_loop [6] (fun v => ∃ j : Nat, v = .int .i64 (j : Nat) ∧ j ≤ 27 ∧ ∀ m, m < j → wordsL[m]? ≠ some s) (fun v => 27 - (intOf v).toNat)
  case atStart => exact ⟨0, rfl, by omega, fun m hm => by omega⟩
  case round =>
    obtain ⟨j, rfl, hj, hno⟩ := hrel
    have HNO := Lib.hid hno
    clear hno
    by_cases hlt : j < 27
    · obtain ⟨u, hu⟩ : ∃ u, wordsL[j]? = some u := ⟨_, List.getElem?_eq_getElem (show j < wordsL.length from hlt)⟩
      have hix := fun W => run_idx hu W
      have HU := Lib.hid hu
      have i1 : (j : Int) < 27 := by omega
      clear hu
      by_cases he : u = s
      · subst he
        have HQ := Lib.hid (YES.out j HU.out)
        go_wp2
        go_ret
        exact ⟨ret_bool HQ.out.symm, rfl⟩
      · have hne : (u.toList == s.toList) = false := by simpa using toList_ne he
        have HN2 := Lib.hid (show ∀ m, m < j + 1 → wordsL[m]? ≠ some s from fun m hm => by
          by_cases hmj : m = j
          · rw [hmj, HU.out]; intro e; exact he (Option.some.inj e)
          · exact HNO.out m (by omega))
        clear he
        go_wp2
        go_round
        case rel => exact ⟨j + 1, by go_num, by omega, HN2.out⟩
        case measure => simp [intOf]; omega
    · obtain rfl : j = 27 := by omega
      have HQ := Lib.hid (NO.out HNO.out)
      go_wp2
      go_ret
      exact ⟨ret_bool HQ.out.symm, rfl⟩
end Go.Proofs.YtagangneoibbcaaDoor
