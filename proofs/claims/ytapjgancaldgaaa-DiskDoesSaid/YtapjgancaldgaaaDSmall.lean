/- The small calls of a disk: made, has, refuses, refusesAll, spend, Off, Blocks, Counts, Plan. -/
import Derived.Test.YtapjgancaldgaaaDSettle
namespace Go.Proofs.Ytapjgancaldgaaa
set_option maxRecDepth 100000
open Go.RowKit

section
variable {F : Nat → Prop} {w : World} {d : Nat} {S : St} {nw : List Int} {vl vp vn : Value}
theorem Dv.c0 (h : Dv F w d S nw vl vp vn) : w.cell? ⟨d, 0, none⟩ = some vl := h.cell 0
theorem Dv.c1 (h : Dv F w d S nw vl vp vn) : w.cell? ⟨d, 1, none⟩ = some vp := h.cell 1
theorem Dv.c2 (h : Dv F w d S nw vl vp vn) : w.cell? ⟨d, 2, none⟩ = some vn := h.cell 2
theorem Dv.c3 (h : Dv F w d S nw vl vp vn) : w.cell? ⟨d, 3, none⟩ = some (.bool S.off) := h.cell 3
theorem Dv.c4 (h : Dv F w d S nw vl vp vn) : w.cell? ⟨d, 4, none⟩ = some (.int .i64 S.plan) := h.cell 4
theorem Dv.c5 (h : Dv F w d S nw vl vp vn) : w.cell? ⟨d, 5, none⟩ = some (.int .i64 S.writes) := h.cell 5
theorem Dv.c6 (h : Dv F w d S nw vl vp vn) : w.cell? ⟨d, 6, none⟩ = some (.int .i64 S.syncs) := h.cell 6

theorem dmade (h : Dv F w d S nw vl vp vn) : Calls Try.prog 49 #[.pointer (some ⟨d, 0, none⟩)] w fun e w' => e = .returned (.bool true) ∧ w = w' := by
  obtain ⟨g, cap, rfl, hF, hgd⟩ := h.lform
  have c0 := h.c0
  have hlo := h.wf.lo
  have hp : (0 : Int) < (S.last.length : Int) := by omega
  go_enter Try.func49, Try.ntmps49
  go_wp2
  go_ret
  exact ⟨by simp; omega, rfl⟩
theorem dhas (h : Dv F w d S nw vl vp vn) (n : Int) : Calls Try.prog 67 #[.pointer (some ⟨d, 0, none⟩), .int .i64 n] w fun e w' => e = .returned (.bool (decide (0 ≤ n ∧ n < (S.last.length : Int)))) ∧ w = w' := by
  obtain ⟨g, cap, rfl, hF, hgd⟩ := h.lform
  have c0 := h.c0
  by_cases h1 : 0 ≤ n
  · by_cases h2 : n < (S.last.length : Int)
    · go_enter Try.func67, Try.ntmps67
      go_wp2
      go_ret
      exact ⟨by simp [h1, h2], rfl⟩
    · have h3 : decide (n < (S.last.length : Int)) = false := by simp; omega
      go_enter Try.func67, Try.ntmps67
      go_wp2
      go_ret
      exact ⟨by simp [h3], rfl⟩
  · have h3 : decide (0 ≤ n) = false := by simp; omega
    go_enter Try.func67, Try.ntmps67
    go_wp2
    go_ret
    exact ⟨by simp [h1], rfl⟩
theorem drefusesAll (h : Dv F w d S nw vl vp vn) : Calls Try.prog 55 #[.pointer (some ⟨d, 0, none⟩)] w fun e w' => e = .returned (.int .i64 (if S.off then 22 else 0)) ∧ w = w' := by
  have c3 := h.c3
  cases ho : S.off with
  | true =>
    rw [ho] at c3
    go_enter Try.func55, Try.ntmps55
    go_wp2_with (go_at_call 49; refine (dmade h).mono ?_; rintro e w' ⟨rfl, rfl⟩)
    go_ret
    exact ⟨rfl, rfl⟩
  | false =>
    rw [ho] at c3
    go_enter Try.func55, Try.ntmps55
    go_wp2_with (go_at_call 49; refine (dmade h).mono ?_; rintro e w' ⟨rfl, rfl⟩)
    go_ret
    exact ⟨rfl, rfl⟩
theorem drefuses (h : Dv F w d S nw vl vp vn) (n : Int) : Calls Try.prog 53 #[.pointer (some ⟨d, 0, none⟩), .int .i64 n] w fun e w' => e = .returned (.int .i64 (if S.off then 22 else if 0 ≤ n ∧ n < (S.last.length : Int) then 0 else 20)) ∧ w = w' := by
  have r := drefusesAll h
  cases ho : S.off with
  | true =>
    rw [ho] at r
    go_enter Try.func53, Try.ntmps53
    go_wp2_with (go_at_call 55; refine r.mono ?_; rintro e w' ⟨rfl, rfl⟩)
    go_ret
    exact ⟨rfl, rfl⟩
  | false =>
    rw [ho] at r
    have hs := dhas h n
    by_cases hn : 0 ≤ n ∧ n < (S.last.length : Int)
    · rw [decide_eq_true hn] at hs
      rw [if_pos hn]
      go_enter Try.func53, Try.ntmps53
      go_wp2_with (first
        | (go_at_call 55; refine r.mono ?_; rintro e w' ⟨rfl, rfl⟩)
        | (go_at_call 67; refine hs.mono ?_; rintro e w' ⟨rfl, rfl⟩))
      go_ret
      exact ⟨rfl, rfl⟩
    · rw [decide_eq_false hn] at hs
      rw [if_neg hn]
      go_enter Try.func53, Try.ntmps53
      go_wp2_with (first
        | (go_at_call 55; refine r.mono ?_; rintro e w' ⟨rfl, rfl⟩)
        | (go_at_call 67; refine hs.mono ?_; rintro e w' ⟨rfl, rfl⟩))
      go_ret
      exact ⟨rfl, rfl⟩

/-- One taken from the plan. -/
def spendS (S : St) : St := if S.plan = -1 then S else if S.plan = 0 then { S with off := true, plan := -1 } else { S with plan := S.plan - 1 }
def spendE (S : St) : Int := if S.plan = 0 then 22 else 0
theorem spendS_last (S : St) : (spendS S).last = S.last := by unfold spendS; split <;> (try split) <;> rfl
theorem spendS_pend (S : St) : (spendS S).pend = S.pend := by unfold spendS; split <;> (try split) <;> rfl

theorem dspend (h : Dv F w d S nw vl vp vn) : Calls Try.prog 54 #[.pointer (some ⟨d, 0, none⟩)] w fun e w' => e = .returned (.int .i64 (spendE S)) ∧ Dv F w' d (spendS S) nw vl vp vn ∧ Out F w w' := by
  have c4 := h.c4
  have f3 := h.frozen 3
  have f4 := h.frozen 4
  have c3 := h.c3
  have hpl := h.wf.pl
  unfold spendE spendS
  by_cases h1 : S.plan = -1
  · rw [h1] at c4
    rw [if_pos h1, if_neg (by omega)]
    have HH := Lib.hid h
    clear h h1 hpl
    go_enter Try.func54, Try.ntmps54
    go_wp2
    go_ret
    exact ⟨rfl, HH.out, Out.refl _ _⟩
  · rw [if_neg h1]
    by_cases h2 : S.plan = 0
    · rw [h2] at c4
      rw [if_pos h2, if_pos h2]
      have HH := Lib.hid (show Dv F ((w.setCell ⟨d, 3, none⟩ (.bool true)).setCell ⟨d, 4, none⟩ (.int .i64 (-1))) d { S with off := true, plan := -1 } nw vl vp vn ∧ Out F w ((w.setCell ⟨d, 3, none⟩ (.bool true)).setCell ⟨d, 4, none⟩ (.int .i64 (-1))) from ⟨(h.setOff true).setPlan (-1) (by omega), ((Out.refl F w).setCell (.inl h.fd) _).setCell (.inl h.fd) _⟩)
      clear h h1 h2 hpl
      go_enter Try.func54, Try.ntmps54
      go_wp2
      go_ret
      exact ⟨rfl, HH.out⟩
    · rw [if_neg h2, if_neg h2]
      have b1 : (S.plan == -1) = false := by simpa using h1
      have b2 : (S.plan == 0) = false := by simpa using h2
      have hb1 : -9223372036854775808 ≤ S.plan - 1 := by omega
      have hb2 : S.plan - 1 ≤ 9223372036854775807 := by omega
      have HH := Lib.hid (show Dv F (w.setCell ⟨d, 4, none⟩ (.int .i64 (S.plan - 1))) d { S with plan := S.plan - 1 } nw vl vp vn ∧ Out F w (w.setCell ⟨d, 4, none⟩ (.int .i64 (S.plan - 1))) from ⟨h.setPlan (S.plan - 1) (by omega), (Out.refl F w).setCell (.inl h.fd) _⟩)
      clear h h1 h2
      go_enter Try.func54, Try.ntmps54
      go_wp2
      go_ret
      exact ⟨rfl, HH.out⟩
theorem doff (h : Dv F w d S nw vl vp vn) : Calls Try.prog 25 #[.pointer (some ⟨d, 0, none⟩)] w fun e w' => e = .returned (.bool S.off) ∧ w = w' := by
  have c3 := h.c3
  go_enter Try.func25, Try.ntmps25
  go_wp2_with (go_at_call 49; refine (dmade h).mono ?_; rintro e w' ⟨rfl, rfl⟩)
  go_ret
  exact ⟨rfl, rfl⟩
theorem dblocks (h : Dv F w d S nw vl vp vn) : Calls Try.prog 39 #[.pointer (some ⟨d, 0, none⟩)] w fun e w' => e = .returned (.int .i64 (S.last.length : Int)) ∧ w = w' := by
  have hm := dmade h
  obtain ⟨g, cap, rfl, hF, hgd⟩ := h.lform
  have c0 := h.c0
  go_enter Try.func39, Try.ntmps39
  go_wp2_with (go_at_call 49; refine hm.mono ?_; rintro e w' ⟨rfl, rfl⟩)
  go_ret
  exact ⟨rfl, rfl⟩
theorem dcounts (h : Dv F w d S nw vl vp vn) : Calls Try.prog 36 #[.pointer (some ⟨d, 0, none⟩)] w fun e w' => e = .returned (.tuple #[.int .i64 S.writes, .int .i64 S.syncs]) ∧ w' = w.drew := by
  have c5 := h.c5
  have c6 := h.c6
  go_enter Try.func36, Try.ntmps36
  go_wp2_with (first
    | (go_at_call 49; refine (dmade h).mono ?_; rintro e w' ⟨rfl, rfl⟩)
    | go_still (by kernel_rfl))
  go_ret2
  exact ⟨rfl, rfl⟩
theorem dplan (h : Dv F w d S nw vl vp vn) (n : Int) (hn : -9223372036854775808 ≤ n ∧ n ≤ 9223372036854775807) : Calls Try.prog 18 #[.pointer (some ⟨d, 0, none⟩), .int .i64 n] w fun e w' => e = .returned (.int .i64 (if S.off then 22 else 0)) ∧ Dv F w' d (if S.off then S else { S with plan := max n (-1) }) nw vl vp vn ∧ Out F w w' := by
  have r := drefusesAll h
  have c4 := h.c4
  have f4 := h.frozen 4
  have HH := Lib.hid (show Dv F (w.setCell ⟨d, 4, none⟩ (.int .i64 (max n (-1)))) d { S with plan := max n (-1) } nw vl vp vn ∧ Out F w (w.setCell ⟨d, 4, none⟩ (.int .i64 (max n (-1)))) from ⟨h.setPlan (max n (-1)) (by omega), (Out.refl F w).setCell (.inl h.fd) _⟩)
  cases ho : S.off with
  | true =>
    rw [ho] at r
    have H0 := Lib.hid h
    clear h
    go_enter Try.func18, Try.ntmps18
    go_wp2_with (go_at_call 55; refine r.mono ?_; rintro e w' ⟨rfl, rfl⟩)
    go_ret
    exact ⟨rfl, H0.out, Out.refl _ _⟩
  | false =>
    rw [ho] at r
    clear h
    rcases Int.lt_or_le n (-1) with h1 | h1
    · rw [show max n (-1) = -1 by omega, ho] at HH
      rw [show max n (-1) = -1 by omega]
      go_enter Try.func18, Try.ntmps18
      go_wp2_with (go_at_call 55; refine r.mono ?_; rintro e w' ⟨rfl, rfl⟩)
      all_goals first | (exfalso; omega) | skip
      go_ret
      exact ⟨rfl, HH.out⟩
    · rw [show max n (-1) = n by omega, ho] at HH
      rw [show max n (-1) = n by omega]
      go_enter Try.func18, Try.ntmps18
      go_wp2_with (go_at_call 55; refine r.mono ?_; rintro e w' ⟨rfl, rfl⟩)
      all_goals first | (exfalso; omega) | skip
      go_ret
      exact ⟨rfl, HH.out⟩
end
end Go.Proofs.Ytapjgancaldgaaa
