/- Layer 12: the law's blanks. -/
import Derived.Test.YtagangneoibbcaaDoorLxLp
import Derived.Test.YtagangneoibbcaaDoorLxA
set_option linter.unusedVariables false
namespace Go.Proofs.YtagangneoibbcaaDoor
set_option maxRecDepth 100000
open Go.RowKit

set_option maxHeartbeats 8000000 in
theorem wBlanks (s : ByteArray) (w : World) (h : skipN false (strB s) = s.size) (hs : s.size ≤ 65536) :
    Calls Tryd.prog 25 #[.string s] w fun e w' => e = .returned (.bool true) ∧ w = w' := by
  obtain ⟨L, hL⟩ : ∃ L, strB s = L := ⟨_, rfl⟩
  have HLL := Lib.hid (show L.length = s.size by rw [← hL]; exact strB_len s)
  have HC := Lib.hid (fun (j : Nat) (h : j < s.size) => (show L.drop j = ((s[j]).toNat : Int) :: L.drop (j + 1) by rw [← hL, chP_in (by rw [strB_len]; exact h), chP_at s j h]))
  have H0 := Lib.hid (show skipN false L = L.length by rw [← hL, h, strB_len])
  clear hL h
  go_enter Tryd.func25, Tryd.ntmps25
  go_wp2
  go_loop [3] (fun v => ∃ j : Nat, v = .int .i64 (j : Nat) ∧ j ≤ s.size + 1 ∧ skipN false (L.drop j) = (L.drop j).length) (fun v => s.size + 1 - (intOf v).toNat)
  case atStart => exact ⟨0, rfl, Nat.zero_le _, by rw [List.drop_zero]; exact H0.out⟩
  case round =>
    obtain ⟨j, rfl, hj, hT⟩ := hrel
    have HTJ := Lib.hid hT
    clear hT
    by_cases hlt : j < s.size
    · have HCJ := Lib.hid (HC.out j hlt)
      have hb := (s[j]).toNat_lt
      have i1 : (j : Int) ≤ 65536 := by omega
      by_cases hg : gapB ((s[j]'hlt).toNat : Int) = true
      · have HE := Lib.hid (show skipN false (L.drop (j + 1)) = (L.drop (j + 1)).length by have := HTJ.out; rw [HCJ.out, skip_gap hg, List.length_cons] at this; omega)
        have hg2 : (((s[j]'hlt).toNat : Int) = 32 ∨ ((s[j]'hlt).toNat : Int) = 9) ∨ (((s[j]'hlt).toNat : Int) = 10 ∨ ((s[j]'hlt).toNat : Int) = 13) := by unfold gapB at hg; rw [decide_eq_true_eq] at hg; omega
        obtain ⟨c, hc⟩ : ∃ c, ((s[j]'hlt).toNat : Int) = c := ⟨_, rfl⟩
        rw [hc] at hg2
        clear hg
        rcases hg2 with (rfl | rfl) | (rfl | rfl)
        all_goals
          (go_wp2
           go_round
           case rel => exact ⟨j + 1, by go_num, by omega, HE.out⟩
           case measure => simp [intOf]; omega)
      · have h35 : ((s[j]'hlt).toNat : Int) = 35 := by
          by_cases q : ((s[j]'hlt).toNat : Int) = 35
          · exact q
          · have := HTJ.out
            rw [HCJ.out, skip_tok (by simpa using hg) q, List.length_cons] at this
            omega
        have HE := Lib.hid (show skipN true (L.drop j) = (L.drop j).length by
          have := HTJ.out
          rw [HCJ.out, h35, skip_hash, List.length_cons] at this
          rw [HCJ.out, h35, skip_in (by decide), List.length_cons]; omega)
        clear hg
        go_wp2
        go_loop [3] (fun v => ∃ k : Nat, v = .int .i64 (k : Nat) ∧ j ≤ k ∧ k ≤ s.size ∧ skipN true (L.drop k) = (L.drop k).length) (fun v => s.size - (intOf v).toNat)
        case atStart => exact ⟨j, rfl, Nat.le_refl _, by omega, HE.out⟩
        case round =>
          obtain ⟨k, rfl, hjk, hk, hT⟩ := hrel
          have HTK := Lib.hid hT
          clear hT
          by_cases hkl : k < s.size
          · have HCK := Lib.hid (HC.out k hkl)
            have hb2 := (s[k]'hkl).toNat_lt
            have i2 : (k : Int) ≤ 65536 := by omega
            rcases h10 : (((s[k]'hkl).toNat : Int) != 10) with _ | _
            · have HE2 := Lib.hid (show skipN false (L.drop (k + 1)) = (L.drop (k + 1)).length by
                have := HTK.out
                rw [HCK.out, show ((s[k]'hkl).toNat : Int) = 10 by simpa using h10, skip_line, skip_gap (by decide), List.length_cons] at this
                omega)
              go_wp2
              go_round
              case rel => exact ⟨k + 1, by go_num, by omega, HE2.out⟩
              case measure => simp [intOf]; omega
            · have HE2 := Lib.hid (show skipN true (L.drop (k + 1)) = (L.drop (k + 1)).length by
                have := HTK.out
                rw [HCK.out, skip_in (by simpa using h10), List.length_cons] at this
                omega)
              go_wp2
              go_round
              case rel => exact ⟨k + 1, by go_num, by omega, by omega, HE2.out⟩
              case measure => simp [intOf]; omega
          · have hke : k = s.size := by omega
            subst hke
            have HE2 := Lib.hid (show skipN false (L.drop (s.size + 1)) = (L.drop (s.size + 1)).length by
              rw [List.drop_eq_nil_of_le (by rw [HLL.out]; omega)]; rfl)
            have i2 : (s.size : Int) ≤ 65536 := by omega
            go_wp2
            go_round
            case rel => exact ⟨s.size + 1, by go_num, by omega, HE2.out⟩
            case measure => simp [intOf]; omega
    · go_wp2
      go_ret
      exact ⟨rfl, rfl⟩
end Go.Proofs.YtagangneoibbcaaDoor
