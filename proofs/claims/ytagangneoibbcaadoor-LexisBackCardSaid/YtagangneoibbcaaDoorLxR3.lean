/- Layer 12: the reference's sign. -/
import Derived.Test.YtagangneoibbcaaDoorLxR2
set_option linter.unusedVariables false
namespace Go.Proofs.YtagangneoibbcaaDoor
set_option maxRecDepth 100000
set_option maxRecDepth 100000
open Go.RowKit

def allS : List Int := [40, 41, 123, 125, 44, 59, 58, 61, 60, 33, 43, 45, 42, 47, 37]
def NoTwo (c d : Int) : Prop := ¬ ((c = 61 ∨ c = 33 ∨ c = 60) ∧ d = 61) ∧ ¬ ((c = 38 ∨ c = 124) ∧ d = c)
theorem signN_two {c d : Int} (h : ¬ NoTwo c d) : signN c d = 2 := by
  unfold NoTwo at h
  rw [Classical.not_and_iff_not_or_not, Classical.not_not, Classical.not_not] at h
  unfold signN
  rcases h with ⟨h1, h2⟩ | ⟨h1, h2⟩
  · rw [if_neg (by omega), if_pos h1, if_pos h2]
  · rw [if_neg (by omega), if_neg (by omega), if_pos h1, if_pos h2]
theorem signN_one {c d : Int} {k : Nat} (hk : k < 15) (h : chP allS k = c) (hn : NoTwo c d) : signN c d = 1 := by
  have hm : c = 40 ∨ c = 41 ∨ c = 123 ∨ c = 125 ∨ c = 44 ∨ c = 59 ∨ c = 58 ∨ c = 61 ∨ c = 60 ∨ c = 33 ∨ c = 43 ∨ c = 45 ∨ c = 42 ∨ c = 47 ∨ c = 37 := by
    subst h
    match k, hk with
    | 0, _ | 1, _ | 2, _ | 3, _ | 4, _ | 5, _ | 6, _ | 7, _ | 8, _ | 9, _ | 10, _ | 11, _ | 12, _ | 13, _ | 14, _ => decide
  unfold NoTwo at hn
  unfold signN
  by_cases h1 : c = 61 ∨ c = 33 ∨ c = 60
  · rw [if_neg (by omega), if_pos h1, if_neg (fun hd => hn.1 ⟨h1, hd⟩)]
  · rw [if_pos (by omega)]
theorem signN_none {c d : Int} (h : ∀ m, m < 15 → chP allS m ≠ c) (hn : NoTwo c d) : signN c d = 0 := by
  have e : ∀ m, m < 15 → chP allS m ≠ c := h
  have a0 : (40 : Int) ≠ c := e 0 (by decide)
  have a1 : (41 : Int) ≠ c := e 1 (by decide)
  have a2 : (123 : Int) ≠ c := e 2 (by decide)
  have a3 : (125 : Int) ≠ c := e 3 (by decide)
  have a4 : (44 : Int) ≠ c := e 4 (by decide)
  have a5 : (59 : Int) ≠ c := e 5 (by decide)
  have a6 : (58 : Int) ≠ c := e 6 (by decide)
  have a7 : (61 : Int) ≠ c := e 7 (by decide)
  have a8 : (60 : Int) ≠ c := e 8 (by decide)
  have a9 : (33 : Int) ≠ c := e 9 (by decide)
  have b0 : (43 : Int) ≠ c := e 10 (by decide)
  have b1 : (45 : Int) ≠ c := e 11 (by decide)
  have b2 : (42 : Int) ≠ c := e 12 (by decide)
  have b3 : (47 : Int) ≠ c := e 13 (by decide)
  have b4 : (37 : Int) ≠ c := e 14 (by decide)
  unfold NoTwo at hn
  unfold signN
  rw [if_neg (by omega), if_neg (by omega)]
  by_cases h3 : c = 38 ∨ c = 124
  · rw [if_pos h3, if_neg (fun hd => hn.2 ⟨h3, hd⟩)]
  · rw [if_neg h3]
theorem toList_data12 (b : ByteArray) : b.toList = b.data.toList := Go.ByteArray.toList_eq b
theorem ret_str {a b : ByteArray} (h : a = b) : Ending.returned (.string a) = .returned (.string b) := by rw [h]
theorem toList_nums (t : ByteArray) : strB t = t.toList.map fun b => (b.toNat : Int) := by unfold strB; rw [toList_data12]

set_option maxHeartbeats 8000000 in
theorem wrSign (s : ByteArray) (i : Nat) (w : World) (hi : i < s.size) (hs : s.size ≤ 65536) :
    Calls Tryd.prog 53 #[.string s, .int .i64 (i : Nat)] w fun e w' => e = .returned (.string (strOfNums (((strB s).drop i).take (signN (chP (strB s) i) (chP (strB s) (i + 1)))))) ∧ ∃ n, w' = w.drewN n := by
  have HCI := Lib.hid (chP_at s i hi)
  obtain ⟨c, hc⟩ : ∃ c, chP (strB s) i = c := ⟨_, rfl⟩
  obtain ⟨d, hd⟩ : ∃ d, chP (strB s) (i + 1) = d := ⟨_, rfl⟩
  have HC := Lib.hid hc
  have HDD := Lib.hid hd
  rw [hc] at HCI
  rw [hc, hd]
  obtain ⟨A0, hA0⟩ : ∃ A : ByteArray, (⟨#[40, 41, 123, 125, 44, 59, 58, 61, 60, 33, 43, 45, 42, 47, 37]⟩ : ByteArray) = A := ⟨_, rfl⟩
  have HAZ := Lib.hid (show A0.size = 15 by rw [← hA0]; rfl)
  have HAL := Lib.hid (show strB A0 = allS by rw [← hA0]; rfl)
  have haz : (A0.size : Int) = 15 := by rw [HAZ.out]; rfl
  have HA0 := Lib.hid hA0
  clear hc hd hA0 haz
  by_cases h2 : i + 1 < s.size
  · obtain ⟨t, ht⟩ : ∃ t, s.extract i (i + 2) = t := ⟨_, rfl⟩
    have HT2 := Lib.hid (show ((strB s).drop i).take 2 = strB t by rw [← ht, strB_sub]; rw [show i + 2 - i = 2 by omega])
    have HTL := Lib.hid (show strB t = [c, d] by
      rw [← HT2.out, chP_in (by rw [strB_len]; exact hi), chP_in (by rw [strB_len]; exact h2), HC.out, HDD.out]; rfl)
    have HT := Lib.hid ht
    have YES := Lib.hid (show ¬ NoTwo c d → t = strOfNums (((strB s).drop i).take (signN c d)) from fun h => by rw [signN_two h, HT2.out, nums_strB12])
    have TOL := Lib.hid (show ∀ a b : UInt8, t.toList = [a, b] ↔ (c = (a.toNat : Int) ∧ d = (b.toNat : Int)) from fun a b => by
      have h1 := HTL.out
      rw [toList_nums] at h1
      constructor
      · intro h
        rw [h] at h1
        simp at h1
        exact ⟨h1.1.symm, h1.2.symm⟩
      · rintro ⟨rfl, rfl⟩
        have hinj : ∀ a b : UInt8, ((a.toNat : Int)) = (b.toNat : Int) → a = b := fun a b e => by apply UInt8.toNat_inj.1; omega
        exact (List.map_inj_right (fun a b e => hinj a b e)).1 (h1.trans (by rfl)))
    clear ht
    go_enter Tryd.func53, Tryd.ntmps53
    go_upto_region 3 with fail
    rw [HT.out]
    have k1 := TOL.out 61 61
    have k2 := TOL.out 33 61
    have k3 := TOL.out 60 61
    have k4 := TOL.out 38 38
    have k5 := TOL.out 124 124
    have K := Lib.hid (show NoTwo c d ↔ (¬ t.toList = [61, 61] ∧ ¬ t.toList = [33, 61] ∧ ¬ t.toList = [60, 61] ∧ ¬ t.toList = [38, 38] ∧ ¬ t.toList = [124, 124]) by
      rw [k1, k2, k3, k4, k5]; unfold NoTwo
      simp only [show ((61 : UInt8).toNat : Int) = 61 from rfl, show ((33 : UInt8).toNat : Int) = 33 from rfl, show ((60 : UInt8).toNat : Int) = 60 from rfl, show ((38 : UInt8).toNat : Int) = 38 from rfl, show ((124 : UInt8).toNat : Int) = 124 from rfl]
      omega)
    clear k1 k2 k3 k4 k5
    by_cases hno : NoTwo c d
    · have HN2 := Lib.hid hno
      obtain ⟨n1, n2, n3, n4, n5⟩ := K.out.1 hno
      have m1 : (t.toList == [61, 61]) = false := by simpa using n1
      have m2 : (t.toList == [33, 61]) = false := by simpa using n2
      have m3 : (t.toList == [60, 61]) = false := by simpa using n3
      have m4 : (t.toList == [38, 38]) = false := by simpa using n4
      have m5 : (t.toList == [124, 124]) = false := by simpa using n5
      have e11 : decide ((i : Int) + 1 < (s.size : Int)) = true := by simp; omega
      clear hno
      go_wp2
      clear e11
      have hA0 := HA0.out
      rw [hA0]
      clear hA0
      go_loopw [6] (fun v wr => ∃ (k q : Nat), v = .int .i64 (k : Nat) ∧ wr = w.drewN q ∧ k ≤ 15 ∧ ∀ m, m < k → chP (strB A0) m ≠ c) (fun v _ => 15 - (intOf v).toNat)
      case atStart => exact ⟨0, 0, rfl, rfl, by omega, fun m h => by omega⟩
      case round =>
        obtain ⟨k, q0, rfl, rfl, hk, hno⟩ := hrel
        have HNO := Lib.hid hno
        clear hno
        by_cases hlt : k < 15
        · have hk2 : k < A0.size := by rw [HAZ.out]; exact hlt
          have hkz : (k : Int) < (A0.size : Int) := by omega
          have HAK := Lib.hid (chP_at A0 k hk2)
          rcases heq : (((A0[k]'hk2).toNat : Int) == ((s[i]'hi).toNat : Int)) with _ | _
          · have HN2x := Lib.hid (show ∀ m, m < k + 1 → chP (strB A0) m ≠ c from fun m hm => by
              by_cases hmk : m = k
              · rw [hmk, HAK.out, HCI.out]; simpa using heq
              · exact HNO.out m (by omega))
            go_wp2
            go_quiet (fail)
            go_wp2
            go_roundw
            case rel => exact ⟨k + 1, _, by go_num, rfl, by omega, HN2x.out⟩
            case measure => simp [intOf]; omega
          · have HS1 := Lib.hid (signN_one (c := c) (d := d) (k := k) hlt (by rw [← HAL.out, HAK.out, HCI.out]; simpa using heq) HN2.out)
            go_wp2
            go_quiet (fail)
            go_wp2
            go_ret
            exact ⟨ret_str (by rw [HS1.out, sub_nums]; rw [show i + 1 - i = 1 by omega]), _, rfl⟩
        · obtain rfl : k = 15 := by omega
          have HS0 := Lib.hid (signN_none (c := c) (d := d) (fun m hm => by rw [← HAL.out]; exact HNO.out m hm) HN2.out)
          go_wp2
          go_ret
          exact ⟨ret_str (by rw [HS0.out]; rfl), _, rfl⟩
    · have HY := Lib.hid (YES.out hno)
      have hsome := fun h => hno (K.out.2 h)
      clear hno
      by_cases n1 : t.toList = [61, 61]
      · clear hsome
        go_wp2
        go_ret
        exact ⟨ret_str HY.out, 0, rfl⟩
      by_cases n2 : t.toList = [33, 61]
      · clear hsome
        go_wp2
        go_ret
        exact ⟨ret_str HY.out, 0, rfl⟩
      by_cases n3 : t.toList = [60, 61]
      · clear hsome
        go_wp2
        go_ret
        exact ⟨ret_str HY.out, 0, rfl⟩
      by_cases n4 : t.toList = [38, 38]
      · clear hsome
        go_wp2
        go_ret
        exact ⟨ret_str HY.out, 0, rfl⟩
      by_cases n5 : t.toList = [124, 124]
      · clear hsome
        go_wp2
        go_ret
        exact ⟨ret_str HY.out, 0, rfl⟩
      · exact absurd ⟨n1, n2, n3, n4, n5⟩ hsome
  · have HN2 := Lib.hid (show NoTwo c d by
      have hd : d = -1 := by rw [← HDD.out]; exact chP_end _ _ (by rw [strB_len]; omega)
      unfold NoTwo
      omega)
    have hge : decide ((i : Int) + 1 < (s.size : Int)) = false := by simp; omega
    go_enter Tryd.func53, Tryd.ntmps53
    go_wp2
    have hA0 := HA0.out
    rw [hA0]
    clear hA0
    go_loopw [6] (fun v wr => ∃ (k q : Nat), v = .int .i64 (k : Nat) ∧ wr = w.drewN q ∧ k ≤ 15 ∧ ∀ m, m < k → chP (strB A0) m ≠ c) (fun v _ => 15 - (intOf v).toNat)
    case atStart => exact ⟨0, 0, rfl, rfl, by omega, fun m h => by omega⟩
    case round =>
      obtain ⟨k, q0, rfl, rfl, hk, hno⟩ := hrel
      have HNO := Lib.hid hno
      clear hno
      by_cases hlt : k < 15
      · have hk2 : k < A0.size := by rw [HAZ.out]; exact hlt
        have hkz : (k : Int) < (A0.size : Int) := by omega
        have HAK := Lib.hid (chP_at A0 k hk2)
        rcases heq : (((A0[k]'hk2).toNat : Int) == ((s[i]'hi).toNat : Int)) with _ | _
        · have HN2x := Lib.hid (show ∀ m, m < k + 1 → chP (strB A0) m ≠ c from fun m hm => by
            by_cases hmk : m = k
            · rw [hmk, HAK.out, HCI.out]; simpa using heq
            · exact HNO.out m (by omega))
          go_wp2
          go_quiet (fail)
          go_wp2
          go_roundw
          case rel => exact ⟨k + 1, _, by go_num, rfl, by omega, HN2x.out⟩
          case measure => simp [intOf]; omega
        · have HS1 := Lib.hid (signN_one (c := c) (d := d) (k := k) hlt (by rw [← HAL.out, HAK.out, HCI.out]; simpa using heq) HN2.out)
          go_wp2
          go_quiet (fail)
          go_wp2
          go_ret
          exact ⟨ret_str (by rw [HS1.out, sub_nums]; rw [show i + 1 - i = 1 by omega]), _, rfl⟩
      · obtain rfl : k = 15 := by omega
        have HS0 := Lib.hid (signN_none (c := c) (d := d) (fun m hm => by rw [← HAL.out]; exact HNO.out m hm) HN2.out)
        go_wp2
        go_ret
        exact ⟨ret_str (by rw [HS0.out]; rfl), _, rfl⟩
end Go.Proofs.YtagangneoibbcaaDoor
