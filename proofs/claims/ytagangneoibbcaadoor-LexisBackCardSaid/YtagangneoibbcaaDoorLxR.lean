/- Layer 12: the reference's small calls, and skip. -/
import Derived.Test.YtagangneoibbcaaDoorLxTk
set_option linter.unusedVariables false
namespace Go.Proofs.YtagangneoibbcaaDoor
set_option maxRecDepth 100000
set_option maxRecDepth 100000
open Go.RowKit

set_option maxHeartbeats 1000000 in
theorem wrLow (c : Int) (w : World) : Calls Tryd.prog 33 #[.int .u8 c] w fun e w' => e = .returned (.bool (lowB c)) ∧ w = w' := by
  have HQ : Hid (lowB c = decide (97 ≤ c ∧ c ≤ 122)) := Lib.hid rfl
  generalize lowB c = q at HQ ⊢
  go_enter Tryd.func33, Tryd.ntmps33
  by_cases h1 : 97 ≤ c
  all_goals by_cases h2 : c ≤ 122
  all_goals (go_wp2; go_ret; exact ⟨ret_bool (by rw [HQ.out]; simp [h1, h2]), rfl⟩)
set_option maxHeartbeats 1000000 in
theorem wrDigit (c : Int) (w : World) : Calls Tryd.prog 50 #[.int .u8 c] w fun e w' => e = .returned (.bool (digB c)) ∧ w = w' := by
  have HQ : Hid (digB c = decide (48 ≤ c ∧ c ≤ 57)) := Lib.hid rfl
  generalize digB c = q at HQ ⊢
  go_enter Tryd.func50, Tryd.ntmps50
  by_cases h1 : 48 ≤ c
  all_goals by_cases h2 : c ≤ 57
  all_goals (go_wp2; go_ret; exact ⟨ret_bool (by rw [HQ.out]; simp [h1, h2]), rfl⟩)
set_option maxHeartbeats 1000000 in
theorem wrBlank (c : Int) (w : World) : Calls Tryd.prog 49 #[.int .u8 c] w fun e w' => e = .returned (.bool (gapB c)) ∧ w = w' := by
  have HQ : Hid (gapB c = decide (c = 32 ∨ c = 9 ∨ c = 10 ∨ c = 13)) := Lib.hid rfl
  generalize gapB c = q at HQ ⊢
  go_enter Tryd.func49, Tryd.ntmps49
  rcases h1 : (c == 32) with _ | _
  all_goals rcases h2 : (c == 9) with _ | _
  all_goals rcases h3 : (c == 10) with _ | _
  all_goals rcases h4 : (c == 13) with _ | _
  all_goals first | (exfalso; simp at h1 h2 h3 h4; omega) | skip
  all_goals (go_wp2; go_ret; exact ⟨ret_bool (by rw [HQ.out]; simp at h1 h2 h3 h4; simp; omega), rfl⟩)
set_option maxHeartbeats 1000000 in
theorem wrInner (c : Int) (w : World) : Calls Tryd.prog 34 #[.int .u8 c] w fun e w' => e = .returned (.bool (innB c)) ∧ w = w' := by
  have HQ : Hid (innB c = (lowB c || digB c || decide (c = 95))) := Lib.hid rfl
  generalize innB c = q at HQ ⊢
  have CL := Lib.hid fun W => wrLow c W
  have CD := Lib.hid fun W => wrDigit c W
  rcases hl : lowB c with _ | _
  all_goals rcases hd : digB c with _ | _
  all_goals rcases h95 : (c == 95) with _ | _
  all_goals rw [hl] at CL
  all_goals rw [hd] at CD
  all_goals
    rw [hl, hd] at HQ
    have HQ2 := Lib.hid (show decide (c = 95) = _ from h95)
    clear hl hd
    go_enter Tryd.func34, Tryd.ntmps34
    go_wp2_with (first
      | (go_at_call 33; refine (CL.out _).mono ?_; rintro e w1 ⟨rfl, rfl⟩)
      | (go_at_call 50; refine (CD.out _).mono ?_; rintro e w1 ⟨rfl, rfl⟩))
    go_ret
    exact ⟨ret_bool (by rw [HQ.out, HQ2.out]; rfl), rfl⟩
set_option maxHeartbeats 2000000 in
theorem wrHex (c : Int) (w : World) (hc : 0 ≤ c ∧ c ≤ 255) : Calls Tryd.prog 65 #[.int .u8 c] w fun e w' => e = .returned (.int .i64 (if hexB c then hexV c else -1)) ∧ w = w' := by
  have D := Lib.hid fun W => wrDigit c W
  obtain ⟨q, hq⟩ : ∃ q, (if hexB c then hexV c else -1) = q := ⟨_, rfl⟩
  have HQ := Lib.hid hq
  rw [hq]
  clear hq
  obtain ⟨hc0, hc1⟩ := hc
  by_cases h1 : digB c = true
  · have h2 : 48 ≤ c ∧ c ≤ 57 := by unfold digB at h1; simpa using h1
    rw [h1] at D
    have E1 := Lib.hid (show c - 48 = q by rw [← HQ.out]; unfold hexB hexV; rw [h1]; simp)
    clear h1
    obtain ⟨h2, h3⟩ := h2
    go_enter Tryd.func65, Tryd.ntmps65
    go_wp2_with (go_at_call 50; refine (D.out _).mono ?_; rintro e w1 ⟨rfl, rfl⟩)
    go_ret
    exact ⟨ret_i64 E1.out, rfl⟩
  · have h1 : digB c = false := by simpa using h1
    rw [h1] at D
    by_cases h2 : 97 ≤ c
    · by_cases h3 : c ≤ 102
      · have E1 := Lib.hid (show c - 97 + 10 = q by rw [← HQ.out]; unfold hexB hexV; rw [h1]; simp [h2, h3]; omega)
        clear h1
        go_enter Tryd.func65, Tryd.ntmps65
        go_wp2_with (go_at_call 50; refine (D.out _).mono ?_; rintro e w1 ⟨rfl, rfl⟩)
        go_ret
        exact ⟨ret_i64 E1.out, rfl⟩
      · have E1 := Lib.hid (show -1 = q by rw [← HQ.out]; unfold hexB; rw [h1]; simp [h3])
        clear h1
        go_enter Tryd.func65, Tryd.ntmps65
        go_wp2_with (go_at_call 50; refine (D.out _).mono ?_; rintro e w1 ⟨rfl, rfl⟩)
        go_ret
        exact ⟨ret_i64 E1.out, rfl⟩
    · have E1 := Lib.hid (show -1 = q by rw [← HQ.out]; unfold hexB; rw [h1]; simp [h2])
      clear h1
      go_enter Tryd.func65, Tryd.ntmps65
      go_wp2_with (go_at_call 50; refine (D.out _).mono ?_; rintro e w1 ⟨rfl, rfl⟩)
      go_ret
      exact ⟨ret_i64 E1.out, rfl⟩
set_option maxHeartbeats 8000000 in
theorem wrSkip (s : ByteArray) (i : Nat) (w : World) (hi : i ≤ s.size) (hs : s.size ≤ 65536) :
    Calls Tryd.prog 28 #[.string s, .int .i64 (i : Nat)] w fun e w' => e = .returned (.int .i64 (i + skipN false ((strB s).drop i) : Nat)) ∧ w = w' := by
  obtain ⟨L, hL⟩ : ∃ L, strB s = L := ⟨_, rfl⟩
  have HLS := Lib.hid hL.symm
  have HLL := Lib.hid (show L.length = s.size by rw [← hL]; exact strB_len s)
  obtain ⟨T, hT⟩ : ∃ T, i + skipN false (L.drop i) = T := ⟨_, rfl⟩
  have HT := Lib.hid hT.symm
  rw [hL, hT]
  have HC := Lib.hid (fun (j : Nat) (h : j < s.size) => (show L.drop j = ((s[j]).toNat : Int) :: L.drop (j + 1) by rw [← hL, chP_in (by rw [strB_len]; exact h), chP_at s j h]))
  clear hL hT
  go_enter Tryd.func28, Tryd.ntmps28
  go_wp2
  go_loop [1] (fun v => ∃ j : Nat, v = .int .i64 (j : Nat) ∧ j ≤ s.size ∧ T = j + skipN false (L.drop j)) (fun v => s.size - (intOf v).toNat)
  case atStart => exact ⟨i, rfl, hi, HT.out⟩
  case round =>
    obtain ⟨j, rfl, hj, hT⟩ := hrel
    have HTJ := Lib.hid hT
    clear hT
    by_cases hlt : j < s.size
    · have HCJ := Lib.hid (HC.out j hlt)
      have hb := (s[j]).toNat_lt
      have CB := Lib.hid fun W => wrBlank ((s[j]).toNat : Int) W
      rcases hg : gapB ((s[j]).toNat : Int) with _ | _
      · rw [hg] at CB
        rcases h35 : (((s[j]).toNat : Int) == 35) with _ | _
        · have HE := Lib.hid (show T = j by rw [HTJ.out, HCJ.out, skip_tok hg (by simpa using h35)]; rfl)
          clear hg
          go_wp2_with (go_at_call 49; refine (CB.out _).mono ?_; rintro e w1 ⟨rfl, rfl⟩)
          go_ret
          exact ⟨ret_i64 (by rw [HE.out]), rfl⟩
        · have HE := Lib.hid (show T = j + skipN true (L.drop j) by
            rw [HTJ.out, HCJ.out, show ((s[j]).toNat : Int) = 35 by simpa using h35, skip_hash, skip_in (by decide)])
          have HJ35 := Lib.hid (show ((s[j]).toNat : Int) = 35 by simpa using h35)
          clear hg
          go_wp2_with (go_at_call 49; refine (CB.out _).mono ?_; rintro e w1 ⟨rfl, rfl⟩)
          go_loop [1] (fun v => ∃ k : Nat, v = .int .i64 (k : Nat) ∧ j ≤ k ∧ k ≤ s.size ∧ T = k + skipN true (L.drop k)) (fun v => s.size - (intOf v).toNat)
          case atStart => exact ⟨j, rfl, Nat.le_refl _, hj, HE.out⟩
          case round =>
            obtain ⟨k, rfl, hjk, hk, hT⟩ := hrel
            have HTK := Lib.hid hT
            clear hT
            by_cases hkl : k < s.size
            · have HCK := Lib.hid (HC.out k hkl)
              have hb2 := (s[k]).toNat_lt
              rcases h10 : (((s[k]).toNat : Int) != 10) with _ | _
              · have HE2 := Lib.hid (show T = k + skipN false (L.drop k) by
                  rw [HTK.out, HCK.out, show ((s[k]).toNat : Int) = 10 by simpa using h10, skip_line])
                have HJK := Lib.hid (show j < k by
                  rcases Nat.lt_or_ge j k with h | h
                  · exact h
                  · have : j = k := by omega
                    subst this
                    rw [HJ35.out] at h10; simp at h10)
                go_wp2
                go_round
                case rel => exact ⟨k, rfl, hk, HE2.out⟩
                case measure => have := HJK.out; simp [intOf]; omega
              · have HE2 := Lib.hid (show T = k + 1 + skipN true (L.drop (k + 1)) by
                  rw [HTK.out, HCK.out, skip_in (by simpa using h10)]; omega)
                go_wp2
                go_round
                case rel => exact ⟨k + 1, by go_num, by omega, by omega, HE2.out⟩
                case measure => simp [intOf]; omega
            · have HE2 := Lib.hid (show T = k + skipN false (L.drop k) by
                rw [HTK.out, List.drop_eq_nil_of_le (by rw [HLL.out]; omega), skip_nil, skip_nil])
              go_wp2
              go_round
              case rel => exact ⟨k, rfl, hk, HE2.out⟩
              case measure => simp [intOf]; omega
      · rw [hg] at CB
        have HE := Lib.hid (show T = j + 1 + skipN false (L.drop (j + 1)) by rw [HTJ.out, HCJ.out, skip_gap hg]; omega)
        have h35 : (((s[j]).toNat : Int) == 35) = false := by
          rcases h : (((s[j]).toNat : Int) == 35) with _ | _
          · rfl
          · exfalso; rw [show ((s[j]).toNat : Int) = 35 by simpa using h] at hg; simp [gapB] at hg
        clear hg
        go_wp2_with (go_at_call 49; refine (CB.out _).mono ?_; rintro e w1 ⟨rfl, rfl⟩)
        go_round
        case rel => exact ⟨j + 1, by go_num, by omega, HE.out⟩
        case measure => simp [intOf]; omega
    · have HE := Lib.hid (show T = j by rw [HTJ.out, List.drop_eq_nil_of_le (by rw [HLL.out]; omega), skip_nil]; rfl)
      go_wp2
      go_ret
      exact ⟨ret_i64 (by rw [HE.out]), rfl⟩
end Go.Proofs.YtagangneoibbcaaDoor
