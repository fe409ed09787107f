/- The walk of WireFrames: true at all bytes and every place. -/
import Derived.Test.YthodmnekljbljaaLive
import Derived.Test.YthodmnekljbljaaTakeFrameR
import Derived.Test.YthodmnekljbljaaEqual
namespace Go.Proofs.Ythodmnekljbljaa
open Go.RowKit

theorem takesF_form {w w' : World} {t : List Int × Nat × Nat} {e : Ending} (h : TakesF w t e w') :
    ∃ A c, e = .returned (.tuple #[.slice A t.1.length c, .int .i64 (t.2.1 : Nat), .int .i64 (t.2.2 : Nat)]) ∧ RB w' A t.1.length t.1 ∧ Below w.heap.size w w' := by
  obtain ⟨v, rfl, ho, hb⟩ := h
  obtain ⟨A, c, rfl, hr, -, -⟩ := ho.form
  exact ⟨A, c, rfl, hr, hb⟩
/-- What Frame answers, in one word. -/
def frameA (zs : List Int) : List Int × Nat := if 1048576 < zs.length then ([], 3) else (frameB zs, 0)
def FrameF (w : World) (t : List Int × Nat) (e : Ending) (w' : World) : Prop :=
  ∃ A c, e = .returned (.tuple #[.slice A t.1.length c, .int .i64 (t.2 : Nat)]) ∧ RB w' A t.1.length t.1 ∧ Below w.heap.size w w'
theorem frameF_of {w w' : World} {zs : List Int} {e : Ending} (hl : zs.length ≤ 1048576) (h : MakesF w zs e w') : FrameF w (frameA zs) e w' := by
  obtain ⟨v, rfl, ho, hb⟩ := h
  obtain ⟨A, c, rfl, hr, -, -⟩ := ho.form
  unfold frameA
  rw [if_neg (by omega)]
  exact ⟨A, c, rfl, hr, hb⟩
theorem wframe_any (A : Option Addr) (n c : Nat) (zs : List Int) (w : World) (h : RB w A n zs) (hn : n ≤ 140737488355328) :
    Calls Try.prog 30 #[.slice A n c] w (FrameF w (frameA zs)) := by
  have hl := h.len
  by_cases hb : 1048576 < n
  · refine (wframe_long A n c w hb hn).mono ?_
    rintro e w' ⟨rfl, rfl⟩
    unfold frameA
    rw [if_pos (by omega)]
    exact ⟨none, 0, rfl, RB.empty _ _, Below.refl _ _⟩
  · exact (wframe A n c zs w h (by omega)).mono fun _ _ hm => frameF_of (by omega) hm
theorem rframe_any (A : Option Addr) (n c : Nat) (zs : List Int) (w : World) (h : RB w A n zs) (hn : n ≤ 140737488355328) :
    Calls Try.prog 31 #[.slice A n c] w (FrameF w (frameA zs)) := by
  have hl := h.len
  by_cases hb : 1048576 < n
  · refine (rframe_long A n c w hb hn).mono ?_
    rintro e w' ⟨rfl, rfl⟩
    unfold frameA
    rw [if_pos (by omega)]
    exact ⟨none, 0, rfl, RB.empty _ _, Below.refl _ _⟩
  · exact (rframe A n c zs w h (by omega)).mono fun _ _ hm => frameF_of (by omega) hm

set_option maxHeartbeats 1000000 in
theorem walk_WireFrames (A0 : Option Addr) (n0 c0 : Nat) (z0 : List Int) (a1 : Int) (w : World) (h0 : RB w A0 n0 z0) (hn0 : n0 ≤ c0) (hc0 : c0 ≤ 140737488351232) (ha1 : -9223372036854775808 ≤ a1 ∧ a1 ≤ 9223372036854775807) :
    Calls Try.prog 7 #[.slice A0 n0 c0, .int .i64 a1] w fun e w' => e = .returned (.bool true) ∧ Below w.heap.size w w' := by
  obtain ⟨f, x, hf⟩ : ∃ f x, frameA z0 = (f, x) := ⟨_, _, rfl⟩
  obtain ⟨t, s, y, ht⟩ : ∃ t s y, takeFrame z0 a1 = (t, s, y) := ⟨_, _, _, rfl⟩
  go_enter Try.func7, Try.ntmps7
  go_wp2_with fail
  refine (wframe_any _ _ _ z0 _ h0 (by omega)).mono ?_
  rw [hf]
  rintro e w1 ⟨A1, c1, rfl, r1, b1⟩
  have g1 := h0.below' b1
  go_wp2_with fail
  refine (rframe_any _ _ _ z0 _ g1 (by omega)).mono ?_
  rw [hf]
  rintro e w2 ⟨A2, c2, rfl, r2, b2⟩
  have g2 := g1.below' b2
  clear g1
  go_wp2_with fail
  refine (wtakeFrame _ _ _ z0 _ _ g2 (by omega) hn0).mono ?_
  rw [ht]
  intro e w3 h3
  obtain ⟨A3, c3, rfl, r3, b3⟩ := takesF_form h3
  have g3 := g2.below' b3
  clear g2 h3
  go_wp2_with fail
  refine (rtakeFrame _ _ _ z0 _ _ g3 (by omega) hn0).mono ?_
  rw [ht]
  intro e w4 h4
  obtain ⟨A4, c4, rfl, r4, b4⟩ := takesF_form h4
  clear g3 h4 h0
  have q1 := ((r1.below' b2).below' b3).below' b4
  have q2 := (r2.below' b3).below' b4
  have q3 := r3.below' b4
  have hb := below_next (below_next (below_next b1 b2) b3) b4
  clear r1 r2 r3 b1 b2 b3 b4 hf ht
  go_wp2_with fail
  refine (live_true _).mono ?_
  rintro e w5 ⟨rfl, b5⟩
  have p1 := q1.below' b5
  have p2 := q2.below' b5
  have p3 := q3.below' b5
  have p4 := r4.below' b5
  have hbb := below_next hb b5
  clear q1 q2 q3 r4 hb b5
  go_wp2_with fail
  refine (equal_same _ _ _ _ _ _ _ _ p1 p2).mono ?_
  rintro e w6 ⟨rfl, rfl⟩
  go_wp2_with fail
  refine (equal_same _ _ _ _ _ _ _ _ p3 p4).mono ?_
  rintro e w7 ⟨rfl, rfl⟩
  go_wp2
  go_ret
  exact ⟨rfl, hbb⟩
end Go.Proofs.Ythodmnekljbljaa
