/- The calls of wire.TakeUint and of the reference's TakeUint: both hand back 'takeUint' of the bytes, and write nothing. -/
import Derived.Test.YtapjgancaldgaaaProg
import Derived.Test.YtapjgancaldgaaaMem
import Derived.Test.YtapjgancaldgaaaDig
namespace Go.Proofs.Ytapjgancaldgaaa
set_option maxRecDepth 100000
open Go.RowKit

theorem place_yes (A : Option Addr) (n c : Nat) (at_ : Int) (w : World) (h : 0 ≤ at_ ∧ at_ ≤ n) (hn : n ≤ 140737488355328) :
    Calls Try.prog 103 #[.slice A n c, .int .i64 at_] w fun e w' => e = .returned (.bool true) ∧ w = w' := by
  obtain ⟨h1, h2⟩ := h
  go_enter Try.func103, Try.ntmps103
  go_wp2
  go_ret
  exact ⟨rfl, rfl⟩

theorem place_no (A : Option Addr) (n c : Nat) (at_ : Int) (w : World) (h : at_ < 0 ∨ n < at_) (hn : n ≤ 140737488355328) :
    Calls Try.prog 103 #[.slice A n c, .int .i64 at_] w fun e w' => e = .returned (.bool false) ∧ w = w' := by
  rcases Int.lt_or_le at_ 0 with h1 | h1
  · clear h
    go_enter Try.func103, Try.ntmps103
    go_wp2
    go_ret
    exact ⟨rfl, rfl⟩
  · have h2 : n < at_ := by omega
    have h3 : decide (at_ ≤ (n : Int)) = false := by simp; omega
    clear h
    go_enter Try.func103, Try.ntmps103
    go_wp2
    go_ret
    exact ⟨rfl, rfl⟩

def Tuple3 (t : Nat × Nat × Nat) (e : Ending) : Prop := e = .returned (.tuple #[.int .u64 (t.1 : Nat), .int .i64 (t.2.1 : Nat), .int .i64 (t.2.2 : Nat)])

set_option maxHeartbeats 1000000 in
theorem wtakeUint (A : Option Addr) (n c : Nat) (zs : List Int) (at_ : Int) (w : World) (h : RB w A n zs) (hn : n ≤ 140737488355328) (hc : n ≤ c) :
    Calls Try.prog 107 #[.slice A n c, .int .i64 at_] w fun e w' => Tuple3 (takeUint zs at_) e ∧ w = w' := by
  by_cases hp : at_ < 0 ∨ n < at_
  · have ht : takeUint zs at_ = (0, 0, 1) := by unfold takeUint; rw [if_pos (by rw [h.len]; exact hp)]
    rw [ht]; clear ht
    go_enter Try.func107, Try.ntmps107
    go_wp2_with (go_at_call 103; refine (place_no _ _ _ _ _ hp hn).mono ?_; rintro e w' ⟨rfl, rfl⟩)
    go_ret3
    exact ⟨rfl, rfl⟩
  · obtain ⟨p, rfl⟩ := Int.eq_ofNat_of_zero_le (show 0 ≤ at_ by omega)
    have hpn : p ≤ n := by omega
    clear hp
    have HT := Lib.hid (takeUint_place zs p (by rw [h.len]; exact hpn))
    have hr := h.cut hpn c hc
    generalize zs.drop p = ys at hr HT
    generalize hA : (if c = p then A else A.map (·.add p)) = A2 at hr
    have hys := hr.len
    go_enter Try.func107, Try.ntmps107
    go_wp2_with (go_at_call 103; refine (place_yes _ _ _ _ _ ⟨by omega, by omega⟩ hn).mono ?_; rintro e w' ⟨rfl, rfl⟩)
    go_loop [7, 18] (fun x i => ∃ k X : Nat, k ≤ n - p ∧ k ≤ 9 ∧ X < 2 ^ (7 * k) ∧ i = .int .i64 k ∧ x = .int .u64 X ∧ Hid (dig ys 0 0 = dig (ys.drop k) k X)) (fun _ i => (n - p) - (intOf i).toNat)
    case atStart => exact ⟨0, 0, by omega, by omega, by omega, rfl, rfl, rfl⟩
    case round =>
      obtain ⟨k, X, hk, hk9, hX, rfl, rfl, HD⟩ := hrel
      by_cases hlt : k < n - p
      · obtain ⟨ad, hA2, hcell⟩ := hr.at_ hlt
        subst hA2
        have hz := hr.getD k
        have HDr := Lib.hid (drop_cons (zs := ys) (k := k) (by omega))
        generalize hzz : ys.getD k 0 = z at hcell hz HDr
        have HZ := Lib.hid hzz
        clear hzz hr
        have HO := Lib.hid (fun h9 => or_u64 X k z hX hz hk9 h9)
        by_cases hlong : k = 9 ∧ 1 < z
        · have HF := Lib.hid (show ofDig (dig ys 0 0) = (0, 0, 10) by rw [HD.out, HDr.out, hlong.1, dig_long _ _ _ hlong.2]; rfl)
          have h9 : ((k : Int) == 9) = true := by simp; omega
          have h1 := hlong.2
          clear hlong
          go_wp2
          go_ret3
          exact ⟨by rw [HT.out, HF.out]; rfl, rfl⟩
        · have HL := Lib.hid hlong
          by_cases hz128 : z < 128
          · by_cases hz0 : z = 0 ∧ 0 < k
            · have HF := Lib.hid (show ofDig (dig ys 0 0) = (0, 0, 10) by rw [HD.out, HDr.out, hz0.1, dig_zero _ _ _ hz0.2]; rfl)
              have h0 : (z == 0) = true := by simp [hz0.1]
              have hk0 := hz0.2
              have h1 : z ≤ 1 := by omega
              clear hlong hz0
              by_cases h9' : k = 9
              · have h9 : ((k : Int) == 9) = true := by simp; omega
                clear h9'
                go_wp2
                go_ret3
                exact ⟨by rw [HT.out, HF.out]; rfl, rfl⟩
              · have h9 : ((k : Int) == 9) = false := by simp; omega
                clear h9'
                go_wp2
                go_ret3
                exact ⟨by rw [HT.out, HF.out]; rfl, rfl⟩
            · have HF := Lib.hid (show ofDig (dig ys 0 0) = (X + (z % 128).toNat * 2 ^ (7 * k), k + 1, 0) by rw [HD.out, HDr.out, dig_last _ _ _ _ hlong hz128 hz0]; rfl)
              rcases Int.lt_or_le 0 z with hzp | hzp
              · have h0 : (z == 0) = false := by simp; omega
                by_cases h9' : k = 9
                · have h9 : ((k : Int) == 9) = true := by simp; omega
                  have h1 : z ≤ 1 := by omega
                  clear h9' hlong hz0
                  go_wp2
                  go_ret3
                  exact ⟨by rw [HT.out, HF.out]; simp only [Tuple3]; simp [HO.out HL.out], rfl⟩
                · have h9 : ((k : Int) == 9) = false := by simp; omega
                  clear h9' hlong hz0
                  go_wp2
                  go_ret3
                  exact ⟨by rw [HT.out, HF.out]; simp only [Tuple3]; simp [HO.out HL.out], rfl⟩
              · have h0 : (z == 0) = true := by simp; omega
                have hk0 : (k : Int) ≤ 0 := by omega
                have h9 : ((k : Int) == 9) = false := by simp; omega
                clear hlong hz0
                go_wp2
                go_ret3
                exact ⟨by rw [HT.out, HF.out]; simp only [Tuple3]; simp [HO.out HL.out], rfl⟩
          · have HF := Lib.hid (show dig ys 0 0 = dig (ys.drop (k + 1)) (k + 1) (X + (z % 128).toNat * 2 ^ (7 * k)) by rw [HD.out, HDr.out, dig_on _ _ _ _ hlong hz128])
            have h9 : ((k : Int) == 9) = false := by simp; omega
            have hk8 : k ≤ 8 := by omega
            clear hlong
            have HX := Lib.hid (acc_lt (z := z) hX)
            go_wp2
            go_round
            case rel => exact ⟨k + 1, _, by omega, by omega, HX.out, by go_num, by rw [HO.out HL.out], HF.out⟩
            case measure => simp [intOf]; omega
      · have HF := Lib.hid (show ofDig (dig ys 0 0) = (0, 0, 10) by rw [HD.out, List.drop_eq_nil_of_le (by omega)]; rfl)
        go_wp2
        go_ret3
        exact ⟨by rw [HT.out, HF.out]; rfl, rfl⟩

end Go.Proofs.Ytapjgancaldgaaa
