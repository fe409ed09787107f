/- The calls of wire.TakeText and of the reference's TakeText. -/
import Derived.Test.YtapjgancaldgaaaTakeInt
import Derived.Test.YtapjgancaldgaaaEqual
namespace Go.Proofs.Ytapjgancaldgaaa
set_option maxRecDepth 100000
open Go.RowKit

/-- What TakeText answers: the text's bytes, how many bytes in all, the error. -/
def takeText (zs : List Int) (at_ most : Int) : List Int × Nat × Nat :=
  if at_ < 0 ∨ (zs.length : Int) < at_ ∨ most < 0 then ([], 0, 1)
  else match takeUint zs at_ with
    | (u, s, 0) => if most < (u : Int) then ([], 0, 3) else if zs.length < at_.toNat + s + u then ([], 0, 10) else ((zs.drop (at_.toNat + s)).take u, s + u, 0)
    | (_, _, e) => ([], 0, e)

def TupleT (t : List Int × Nat × Nat) (e : Ending) : Prop := e = .returned (.tuple #[.string (strOfNums t.1), .int .i64 (t.2.1 : Nat), .int .i64 (t.2.2 : Nat)])

theorem dig_size : ∀ (zs : List Int) (i x n s : Nat), dig zs i x = some (n, s) → s ≤ i + zs.length
  | [], _, _, _, _, h => by simp [dig] at h
  | z :: zs, i, x, n, s, h => by
    unfold dig at h
    split at h
    · cases h
    · split at h
      · split at h
        · cases h
        · simp only [Option.some.injEq, Prod.mk.injEq] at h
          simp; omega
      · have := dig_size zs _ _ _ _ h
        simp; omega

theorem takeUint_fits (zs : List Int) (p u s : Nat) (hp : p ≤ zs.length) (h : takeUint zs p = (u, s, 0)) : p + s ≤ zs.length := by
  rw [takeUint_place zs p hp] at h
  generalize hd : dig (zs.drop p) 0 0 = o at h
  match o, hd with
  | none, _ => simp [ofDig] at h
  | some (a, b), hd =>
    simp only [ofDig, Prod.mk.injEq] at h
    have := dig_size _ _ _ _ _ hd
    rw [List.length_drop] at this
    omega

set_option maxHeartbeats 1000000 in
theorem wtakeText (A : Option Addr) (n c : Nat) (zs : List Int) (at_ most : Int) (w : World) (h : RB w A n zs) (hn : n ≤ 140737488355328) (hc : n ≤ c)
    (hm : -9223372036854775808 ≤ most ∧ most ≤ 9223372036854775807) :
    Calls Try.prog 106 #[.slice A n c, .int .i64 at_, .int .i64 most] w fun e w' => TupleT (takeText zs at_ most) e ∧ w = w' := by
  have hl := h.len
  by_cases hp : at_ < 0 ∨ n < at_
  · have ht : takeText zs at_ most = ([], 0, 1) := by unfold takeText; rw [if_pos (by omega)]
    rw [ht]; clear ht
    go_enter Try.func106, Try.ntmps106
    go_wp2_with (go_at_call 103; refine (place_no _ _ _ _ _ hp hn).mono ?_; rintro e w' ⟨rfl, rfl⟩)
    go_ret3
    exact ⟨rfl, rfl⟩
  · obtain ⟨p, rfl⟩ := Int.eq_ofNat_of_zero_le (show 0 ≤ at_ by omega)
    have hpn : p ≤ n := by omega
    have CP := Lib.hid (place_yes A n c p w ⟨by omega, by omega⟩ hn)
    clear hp
    by_cases hm0 : most < 0
    · have ht : takeText zs p most = ([], 0, 1) := by unfold takeText; rw [if_pos (by omega)]
      rw [ht]; clear ht
      go_enter Try.func106, Try.ntmps106
      go_wp2_with (go_at_call 103; refine CP.out.mono ?_; rintro e w' ⟨rfl, rfl⟩)
      go_ret3
      exact ⟨rfl, rfl⟩
    · obtain ⟨q, rfl⟩ := Int.eq_ofNat_of_zero_le (show 0 ≤ most by omega)
      have hq : q ≤ 9223372036854775807 := by omega
      have HT : Hid (takeText zs p q = match takeUint zs p with
        | (u, s, 0) => if (q : Int) < (u : Int) then ([], 0, 3) else if zs.length < p + s + u then ([], 0, 10) else ((zs.drop (p + s)).take u, s + u, 0)
        | (_, _, e) => ([], 0, e)) := by
        show takeText zs p q = _
        unfold takeText; rw [if_neg (by omega), Int.toNat_natCast]
      clear hm hm0
      have hlt := takeUint_lt zs h.byte p
      have hfit := takeUint_fits zs p
      have CU := Lib.hid (wtakeUint A n c zs p w h hn hc)
      obtain ⟨u, s, e, ht⟩ : ∃ u s e, takeUint zs p = (u, s, e) := ⟨_, _, _, rfl⟩
      rw [ht] at hlt CU HT
      simp only at hlt
      obtain ⟨hu, hs⟩ := hlt
      rcases Nat.eq_zero_or_pos e with rfl | he
      · have hps : p + s ≤ n := by have := hfit u s (by omega) ht; omega
        clear hfit ht
        have HT' : Hid (takeText zs p q = if (q : Int) < (u : Int) then ([], 0, 3) else if zs.length < p + s + u then ([], 0, 10) else ((zs.drop (p + s)).take u, s + u, 0)) := HT.out
        clear HT
        by_cases hlong : (q : Int) < u
        · have HF := Lib.hid (show takeText zs p q = ([], 0, 3) by rw [HT'.out, if_pos hlong])
          clear HT'
          go_enter Try.func106, Try.ntmps106
          go_wp2_with (go_at_call 103; refine CP.out.mono ?_; rintro e w' ⟨rfl, rfl⟩)
          refine CU.out.mono ?_
          rintro e w' ⟨he, rfl⟩
          simp only [Tuple3] at he
          subst he
          go_wp2
          go_ret3
          exact ⟨by rw [HF.out]; rfl, rfl⟩
        · have hr := h.cut hps c hc
          generalize hA : (if c = p + s then A else A.map (·.add (p + s))) = A2 at hr
          by_cases hfew : n < p + s + u
          · have HF := Lib.hid (show takeText zs p q = ([], 0, 10) by rw [HT'.out, if_neg hlong, if_pos (by omega)])
            clear HT' hr
            go_enter Try.func106, Try.ntmps106
            go_wp2_with (go_at_call 103; refine CP.out.mono ?_; rintro e w' ⟨rfl, rfl⟩)
            refine CU.out.mono ?_
            rintro e w' ⟨he, rfl⟩
            simp only [Tuple3] at he
            subst he
            go_wp2
            all_goals
              go_ret3
              exact ⟨by rw [HF.out]; rfl, rfl⟩
          · have HF := Lib.hid (show takeText zs p q = ((zs.drop (p + s)).take u, s + u, 0) by rw [HT'.out, if_neg hlong, if_neg (by omega)])
            have hstr := rb_str (hr.take (k := u) (by omega)) (c - (p + s))
            clear HT' hr
            go_enter Try.func106, Try.ntmps106
            go_wp2_with (go_at_call 103; refine CP.out.mono ?_; rintro e w' ⟨rfl, rfl⟩)
            refine CU.out.mono ?_
            rintro e w' ⟨he, rfl⟩
            simp only [Tuple3] at he
            subst he
            go_wp2
            all_goals
              go_ret3
              exact ⟨by rw [HF.out]; rfl, rfl⟩
      · have HF : Hid (takeText zs p q = ([], 0, e)) := by
          show takeText zs p q = _
          rw [HT.out]
          split
          · rename_i hx; simp at hx; omega
          · rename_i hx; simp at hx; simp [hx]
        clear HT ht hfit
        have hb : ((e : Int) != 0) = true := by simp; omega
        go_enter Try.func106, Try.ntmps106
        go_wp2_with (go_at_call 103; refine CP.out.mono ?_; rintro e w' ⟨rfl, rfl⟩)
        refine CU.out.mono ?_
        rintro e w' ⟨he, rfl⟩
        simp only [Tuple3] at he
        subst he
        go_wp2
        go_ret3
        exact ⟨by rw [HF.out]; rfl, rfl⟩

end Go.Proofs.Ytapjgancaldgaaa
