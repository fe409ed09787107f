/- The calls of wire.TakeInt and of the reference's TakeInt. -/
import Derived.Test.YthodmnekljbljaaTake
import Derived.Laws.DeepNot64
namespace Go.Proofs.Ythodmnekljbljaa
open Go.RowKit

theorem dig_lt : ∀ (zs : List Int) (i x : Nat), (∀ z ∈ zs, 0 ≤ z ∧ z ≤ 255) → i ≤ 9 → x < 2 ^ (7 * i) → ∀ n s, dig zs i x = some (n, s) → n < 18446744073709551616 ∧ s ≤ 10
  | [], _, _, _, _, _, n, s, h => by simp [dig] at h
  | z :: zs, i, x, hz, hi, hx, n, s, h => by
    have hzz := hz z (by simp)
    by_cases h9 : i = 9 ∧ 1 < z
    · rw [h9.1, dig_long _ _ _ h9.2] at h; simp at h
    · by_cases h128 : z < 128
      · by_cases h0 : z = 0 ∧ 0 < i
        · rw [h0.1, dig_zero _ _ _ h0.2] at h; simp at h
        · rw [dig_last _ _ _ _ h9 h128 h0] at h
          simp only [Option.some.injEq, Prod.mk.injEq] at h
          obtain ⟨rfl, rfl⟩ := h
          refine ⟨?_, by omega⟩
          rcases Nat.lt_or_ge i 9 with hi9 | hi9
          · exact Nat.lt_of_lt_of_le (acc_lt hx) (Nat.le_trans (Nat.pow_le_pow_right (n := 2) (by omega) (show 7 * (i + 1) ≤ 63 by omega)) (by decide))
          · obtain rfl : i = 9 := by omega
            have h1 : (z % 128).toNat ≤ 1 := by omega
            have h2 : (z % 128).toNat * 2 ^ (7 * 9) ≤ 1 * 2 ^ 63 := Nat.mul_le_mul h1 (by decide)
            have h3 : x < 2 ^ 63 := by simpa using hx
            omega
      · have hi9 : i ≠ 9 := by intro e; exact h9 ⟨e, by omega⟩
        rw [dig_on _ _ _ _ h9 h128] at h
        exact dig_lt zs (i + 1) _ (fun y hy => hz y (by simp [hy])) (by omega) (acc_lt hx) n s h

theorem takeUint_lt (zs : List Int) (hz : ∀ z ∈ zs, 0 ≤ z ∧ z ≤ 255) (at_ : Int) : (takeUint zs at_).1 < 18446744073709551616 ∧ (takeUint zs at_).2.1 ≤ 10 := by
  unfold takeUint
  split
  · simp
  · have h := dig_lt (zs.drop at_.toNat) 0 0 (fun z hzz => hz z (List.mem_of_mem_drop hzz)) (by omega) (by simp)
    generalize dig (zs.drop at_.toNat) 0 0 = o at h
    match o, h with
    | none, _ => simp
    | some (n, s), h => exact h n s rfl

/-- What TakeInt answers. -/
def takeInt (zs : List Int) (at_ : Int) : Int × Nat × Nat :=
  match takeUint zs at_ with
  | (n, s, 0) => (if n % 2 = 1 then -((n / 2 : Nat) : Int) - 1 else ((n / 2 : Nat) : Int), s, 0)
  | (_, _, e) => (0, 0, e)

def Tuple3i (t : Int × Nat × Nat) (e : Ending) : Prop := e = .returned (.tuple #[.int .i64 t.1, .int .i64 (t.2.1 : Nat), .int .i64 (t.2.2 : Nat)])

theorem not_half (u : Nat) (hu : u < 18446744073709551616) : Go.bits .xor .i64 (-1) ((u : Int) / 2) = -((u : Int) / 2) - 1 := by
  rw [show (u : Int) / 2 = ((u / 2 : Nat) : Int) from by omega, i64_not _ (by omega)]
  omega

set_option maxHeartbeats 1000000 in
theorem wtakeInt (A : Option Addr) (n c : Nat) (zs : List Int) (at_ : Int) (w : World) (h : RB w A n zs) (hn : n ≤ 140737488355328) (hc : n ≤ c) :
    Calls Try.prog 22 #[.slice A n c, .int .i64 at_] w fun e w' => Tuple3i (takeInt zs at_) e ∧ w = w' := by
  have hlt := takeUint_lt zs h.byte at_
  have HC := Lib.hid (wtakeUint A n c zs at_ w h hn hc)
  obtain ⟨u, s, e, ht⟩ : ∃ u s e, takeUint zs at_ = (u, s, e) := ⟨_, _, _, rfl⟩
  rw [ht] at hlt
  simp only at hlt
  obtain ⟨hu, hs⟩ := hlt
  rcases Nat.eq_zero_or_pos e with rfl | he
  · have HT : Hid (takeInt zs at_ = (if u % 2 = 1 then -((u / 2 : Nat) : Int) - 1 else ((u / 2 : Nat) : Int), s, 0)) := by
      show takeInt zs at_ = _
      unfold takeInt; rw [ht]; rfl
    rw [ht] at HC
    clear ht
    by_cases h2 : u % 2 = 1
    · have hb : ((u : Int) % 2 == 1) = true := by simp; omega
      have HI := Lib.hid (show takeInt zs at_ = (-((u / 2 : Nat) : Int) - 1, s, 0) by rw [HT.out, if_pos h2])
      clear HT h2
      go_enter Try.func22, Try.ntmps22
      go_wp2_with fail
      refine HC.out.mono ?_
      rintro e w' ⟨he, rfl⟩
      simp only [Tuple3] at he
      subst he
      go_wp2
      go_ret3
      exact ⟨by rw [HI.out]; simp only [Tuple3i]; simp [not_half u hu], rfl⟩
    · have hb : ((u : Int) % 2 == 1) = false := by simp; omega
      have HI := Lib.hid (show takeInt zs at_ = (((u / 2 : Nat) : Int), s, 0) by rw [HT.out, if_neg h2])
      clear HT h2
      go_enter Try.func22, Try.ntmps22
      go_wp2_with fail
      refine HC.out.mono ?_
      rintro e w' ⟨he, rfl⟩
      simp only [Tuple3] at he
      subst he
      go_wp2
      go_ret3
      exact ⟨by rw [HI.out]; rfl, rfl⟩
  · have HI : Hid (takeInt zs at_ = (0, 0, e)) := by
      show takeInt zs at_ = _
      unfold takeInt; rw [ht]
      split
      · rename_i hx; simp at hx; omega
      · rename_i hx; simp at hx; simp [hx]
    rw [ht] at HC
    clear ht
    have hb : ((e : Int) != 0) = true := by simp; omega
    go_enter Try.func22, Try.ntmps22
    go_wp2_with fail
    refine HC.out.mono ?_
    rintro e w' ⟨he, rfl⟩
    simp only [Tuple3] at he
    subst he
    go_wp2
    go_ret3
    exact ⟨by rw [HI.out]; rfl, rfl⟩

set_option maxHeartbeats 1000000 in
theorem rtakeInt (A : Option Addr) (n c : Nat) (zs : List Int) (at_ : Int) (w : World) (h : RB w A n zs) (hn : n ≤ 140737488355328) :
    Calls Try.prog 23 #[.slice A n c, .int .i64 at_] w fun e w' => Tuple3i (takeInt zs at_) e ∧ w = w' := by
  have hlt := takeUint_lt zs h.byte at_
  have HC := Lib.hid (rtakeUint A n c zs at_ w h hn)
  obtain ⟨u, s, e, ht⟩ : ∃ u s e, takeUint zs at_ = (u, s, e) := ⟨_, _, _, rfl⟩
  rw [ht] at hlt
  simp only at hlt
  obtain ⟨hu, hs⟩ := hlt
  rcases Nat.eq_zero_or_pos e with rfl | he
  · have HT : Hid (takeInt zs at_ = (if u % 2 = 1 then -((u / 2 : Nat) : Int) - 1 else ((u / 2 : Nat) : Int), s, 0)) := by
      show takeInt zs at_ = _
      unfold takeInt; rw [ht]; rfl
    rw [ht] at HC
    clear ht
    by_cases h2 : u % 2 = 1
    · have hb : ((u : Int) % 2 == 1) = true := by simp; omega
      have HI := Lib.hid (show takeInt zs at_ = (-((u / 2 : Nat) : Int) - 1, s, 0) by rw [HT.out, if_pos h2])
      clear HT h2
      go_enter Try.func23, Try.ntmps23
      go_wp2_with fail
      refine HC.out.mono ?_
      rintro e w' ⟨he, rfl⟩
      simp only [Tuple3] at he
      subst he
      go_wp2
      go_ret3
      exact ⟨by rw [HI.out]; simp only [Tuple3i]; simp, rfl⟩
    · have hb : ((u : Int) % 2 == 1) = false := by simp; omega
      have HI := Lib.hid (show takeInt zs at_ = (((u / 2 : Nat) : Int), s, 0) by rw [HT.out, if_neg h2])
      clear HT h2
      go_enter Try.func23, Try.ntmps23
      go_wp2_with fail
      refine HC.out.mono ?_
      rintro e w' ⟨he, rfl⟩
      simp only [Tuple3] at he
      subst he
      go_wp2
      go_ret3
      exact ⟨by rw [HI.out]; rfl, rfl⟩
  · have HI : Hid (takeInt zs at_ = (0, 0, e)) := by
      show takeInt zs at_ = _
      unfold takeInt; rw [ht]
      split
      · rename_i hx; simp at hx; omega
      · rename_i hx; simp at hx; simp [hx]
    rw [ht] at HC
    clear ht
    have hb : ((e : Int) != 0) = true := by simp; omega
    go_enter Try.func23, Try.ntmps23
    go_wp2_with fail
    refine HC.out.mono ?_
    rintro e w' ⟨he, rfl⟩
    simp only [Tuple3] at he
    subst he
    go_wp2
    go_ret3
    exact ⟨by rw [HI.out]; rfl, rfl⟩
end Go.Proofs.Ythodmnekljbljaa
