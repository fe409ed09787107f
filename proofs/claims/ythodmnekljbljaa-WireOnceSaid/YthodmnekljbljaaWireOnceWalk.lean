/- The walk of WireOnce: what is taken is put as just the bytes that were there. -/
import Derived.Test.YthodmnekljbljaaOnce
import Derived.Test.YthodmnekljbljaaWireFramesWalk
import Derived.Test.YthodmnekljbljaaWireHeadsWalk
import Derived.Deep.RegionHeld3
import Derived.Deep.DeepCutAuto
import Derived.BigQuiet
import Derived.Deep.QuietTactic
namespace Go.Proofs.Ythodmnekljbljaa
open Go.RowKit

set_option maxHeartbeats 1000000 in
set_option maxRecDepth 100000 in
theorem walk_WireOnce (A0 : Option Addr) (n0 c0 : Nat) (z0 : List Int) (a1 : Int) (w : World) (h0 : RB w A0 n0 z0) (hn0 : n0 ≤ c0) (hc0 : c0 ≤ 140737488351232) (ha1 : -9223372036854775808 ≤ a1 ∧ a1 ≤ 9223372036854775807) :
    Calls Try.prog 10 #[.slice A0 n0 c0, .int .i64 a1] w fun e w' => e = .returned (.bool true) ∧ Below w.heap.size w w' := by
  have hl := h0.len
  have C1 := Lib.hid (wtakeUint A0 n0 c0 z0 a1 w h0 (by omega) hn0)
  have CUT := Lib.hid fun k (hk : k ≤ n0) => h0.cut hk c0 hn0
  obtain ⟨u, s, e, ht⟩ : ∃ u s e, takeUint z0 a1 = (u, s, e) := ⟨_, _, _, rfl⟩
  have hu := (takeUint_lt z0 h0.byte a1).1
  rw [ht] at C1 hu
  simp only at hu
  go_enter Try.func10, Try.ntmps10
  go_wp2_with fail
  refine C1.out.mono ?_
  rintro _ w' ⟨he, rfl⟩
  simp only [Tuple3] at he
  subst he
  go_upto_region 2 with fail
  go_cut [38] (fun t38 wr => t38 = .bool false ∧ Below w.heap.size w wr)
  case first =>
    rcases Nat.eq_zero_or_pos e with rfl | he
    · obtain ⟨hp, hfit, hs1⟩ := takeUint_in ht
      have heq := uint_once h0.byte ht
      obtain ⟨p, rfl⟩ := Int.eq_ofNat_of_zero_le hp
      rw [Int.toNat_natCast] at hfit heq
      have hr : RB w (if c0 = p then A0 else A0.map (·.add p)) s (uintB u) := by rw [heq]; exact (CUT.out p (by omega)).take (by omega)
      rw [if_neg (by omega)] at hr
      have HR := Lib.hid hr
      have hlu : (uintB u).length = s := hr.len
      have HLU := Lib.hid hlu
      clear hr heq ht hlu CUT C1
      have j1 : IntKind.i64.wrap ((p : Int) + s) = (p : Int) + s := IntWalk.i64_in _ (by omega)
      have j2 : 0 ≤ (p : Int) + s := by omega
      have j3 : ((p : Int) + s).toNat = p + s := by omega
      have j4 : (p : Int) ≤ (p : Int) + s := by omega
      have j5 : (p : Int) + s ≤ c0 := by omega
      have j6 : ¬ c0 = p := by omega
      have j7 : p + s - p = s := by omega
      have b0 : Below w.heap.size w w.drew := (Below.refl _ _).drew
      have h0d := h0.drew
      go_region_held3 (fun w' => RB w' A0 n0 z0) (first | exact h0 | exact h0d | exact hx1)
        (first
          | (go_at_call 16; refine (wuint u _ hu).mono ?_; intro e w1 hm; obtain ⟨A1, c1, rfl, hr1, hc1, hm1, hb1⟩ := make_form hm; have B1 := below_next b0 hb1; have hx1 := h0.below' B1; clear hm)
          | (go_at_call 15; refine (equal_same _ _ _ _ _ _ _ _ hr1 (HR.out.below' B1)).mono ?_; rintro e w2 ⟨rfl, rfl⟩))
      go_wp2_with fail
      go_meet
      exact ⟨rfl, B1⟩
    · have hb : ((e : Int) == 0) = false := by simp; omega
      go_quiet (fail)
      go_wp2_with fail
      go_meet
      exact ⟨rfl, Joins.below_draws _ _ _⟩
  case rest =>
    obtain ⟨rfl, hbb⟩ := hcut
    have h1 := h0.below' hbb
    clear h0 C1 CUT ht hu
    obtain ⟨v, s, e, ht⟩ : ∃ v s e, takeInt z0 a1 = (v, s, e) := ⟨_, _, _, rfl⟩
    have C1 := Lib.hid (wtakeInt A0 n0 c0 z0 a1 wc h1 (by omega) hn0)
    have CUT := Lib.hid fun k (hk : k ≤ n0) => h1.cut hk c0 hn0
    rw [ht] at C1
    go_wp2_with fail
    refine C1.out.mono ?_
    rintro _ w' ⟨he, rfl⟩
    simp only [Tuple3i] at he
    subst he
    go_upto_region 5 with fail
    go_cut [59] (fun t59 wr => t59 = .bool false ∧ Below wc.heap.size wc wr)
    case first =>
      rcases Nat.eq_zero_or_pos e with rfl | he
      · obtain ⟨u, htu, hvu⟩ := takeInt_ok ht
        obtain ⟨hp, hfit, hs1⟩ := takeUint_in htu
        have hv : -9223372036854775808 ≤ v ∧ v ≤ 9223372036854775807 := by
          have := (takeUint_lt z0 h1.byte a1).1
          rw [htu] at this
          simp only at this
          rw [← hvu] at this
          unfold intN at this
          split at this <;> omega
        have heq := int_once h1.byte ht
        obtain ⟨p, rfl⟩ := Int.eq_ofNat_of_zero_le hp
        rw [Int.toNat_natCast] at hfit heq
        have hr : RB wc (if c0 = p then A0 else A0.map (·.add p)) s (uintB (intN v)) := by rw [heq]; exact (CUT.out p (by omega)).take (by omega)
        rw [if_neg (by omega)] at hr
        have HR := Lib.hid hr
        have hlu : (uintB (intN v)).length = s := hr.len
        have HLU := Lib.hid hlu
        clear hr heq ht hlu CUT C1 htu hvu
        have j1 : IntKind.i64.wrap ((p : Int) + s) = (p : Int) + s := IntWalk.i64_in _ (by omega)
        have j2 : 0 ≤ (p : Int) + s := by omega
        have j3 : ((p : Int) + s).toNat = p + s := by omega
        have j4 : (p : Int) ≤ (p : Int) + s := by omega
        have j5 : (p : Int) + s ≤ c0 := by omega
        have j6 : ¬ c0 = p := by omega
        have j7 : p + s - p = s := by omega
        have b0 : Below wc.heap.size wc wc.drew := (Below.refl _ _).drew
        have h1d := h1.drew
        go_region_held3 (fun w' => RB w' A0 n0 z0) (first | exact h1 | exact h1d | exact hx1)
          (first
            | (go_at_call 18; refine (wint v _ hv).mono ?_; intro e w1 hm; obtain ⟨A1, c1, rfl, hr1, hc1, hm1, hb1⟩ := make_form hm; have B1 := below_next b0 hb1; have hx1 := h1.below' B1; clear hm)
            | (go_at_call 15; refine (equal_same _ _ _ _ _ _ _ _ hr1 (HR.out.below' B1)).mono ?_; rintro e w2 ⟨rfl, rfl⟩))
        go_wp2_with fail
        go_meet
        exact ⟨rfl, B1⟩
      · have hb : ((e : Int) == 0) = false := by simp; omega
        go_quiet (fail)
        go_wp2_with fail
        go_meet
        exact ⟨rfl, Joins.below_draws _ _ _⟩
    case rest =>
      obtain ⟨rfl, hbb2⟩ := hcut
      have hbb3 := below_next hbb hbb2
      have h2 := h1.below' hbb2
      clear h1 C1 CUT ht hbb hbb2
      obtain ⟨l, s, e, ht⟩ : ∃ l s e, takeText z0 a1 n0 = (l, s, e) := ⟨_, _, _, rfl⟩
      have C1 := Lib.hid (wtakeText A0 n0 c0 z0 a1 n0 wc h2 (by omega) hn0 (by omega))
      have CUT := Lib.hid fun k (hk : k ≤ n0) => h2.cut hk c0 hn0
      rw [ht] at C1
      go_wp2_with fail
      refine C1.out.mono ?_
      rintro _ w' ⟨he, rfl⟩
      simp only [TupleT] at he
      subst he
      go_upto_region 8 with fail
      go_cut [82] (fun t82 wr => t82 = .bool false ∧ Below wc.heap.size wc wr)
      case first =>
        rcases Nat.eq_zero_or_pos e with rfl | he
        · obtain ⟨u1, k1, htu, hsu, hfit, hle⟩ := takeText_ok ht
          have hp := (takeUint_in htu).1
          have hk1 := (takeUint_in htu).2.2
          have heq := text_once h2.byte ht
          have hll : (strOfNums l).size ≤ 140737488351232 := by
            rw [strOfNums_size, hle, List.length_take, List.length_drop]; omega
          obtain ⟨p, rfl⟩ := Int.eq_ofNat_of_zero_le hp
          rw [Int.toNat_natCast] at hfit heq
          have hr : RB wc (if c0 = p then A0 else A0.map (·.add p)) s (textB (strOfNums l)) := by rw [heq]; exact (CUT.out p (by omega)).take (by omega)
          rw [if_neg (by omega)] at hr
          have HR := Lib.hid hr
          have j1 : IntKind.i64.wrap ((p : Int) + s) = (p : Int) + s := IntWalk.i64_in _ (by omega)
          have j2 : 0 ≤ (p : Int) + s := by omega
          have j3 : ((p : Int) + s).toNat = p + s := by omega
          have j4 : (p : Int) ≤ (p : Int) + s := by omega
          have j5 : (p : Int) + s ≤ c0 := by omega
          have j6 : ¬ c0 = p := by omega
          have j7 : p + s - p = s := by omega
          clear hr heq ht CUT C1 htu hsu hle
          have b0 : Below wc.heap.size wc wc.drew := (Below.refl _ _).drew
          have h2d := h2.drew
          go_region_held3 (fun w' => RB w' A0 n0 z0) (first | exact h2 | exact h2d | exact hx1)
            (first
              | (go_at_call 26; refine (wtext (strOfNums l) _ hll).mono ?_; intro e w1 hm; obtain ⟨A1, c1, rfl, hr1, hc1, hm1, hb1⟩ := make_form hm; have B1 := below_next b0 hb1; have hx1 := h2.below' B1; clear hm)
              | (go_at_call 15; refine (equal_same _ _ _ _ _ _ _ _ hr1 (HR.out.below' B1)).mono ?_; rintro e w2 ⟨rfl, rfl⟩))
          go_wp2_with fail
          go_meet
          exact ⟨rfl, B1⟩
        · have hb : ((e : Int) == 0) = false := by simp; omega
          go_quiet (fail)
          go_wp2_with fail
          go_meet
          exact ⟨rfl, Joins.below_draws _ _ _⟩
      case rest =>
        obtain ⟨rfl, hbb4⟩ := hcut
        have hbb5 := below_next hbb3 hbb4
        have h3 := h2.below' hbb4
        clear h2 C1 CUT ht hbb3 hbb4
        obtain ⟨t, s, e, ht⟩ : ∃ t s e, takeFrame z0 a1 = (t, s, e) := ⟨_, _, _, rfl⟩
        have C1 := Lib.hid (wtakeFrame A0 n0 c0 z0 a1 wc h3 (by omega) hn0)
        rw [ht] at C1
        go_wp2_with fail
        refine C1.out.mono ?_
        intro _ w1 hm
        obtain ⟨A1, c1, rfl, hr1, hb1⟩ := takesF_form hm
        have hB1 := below_next hbb5 hb1
        have h4 := h3.below' hb1
        clear hm C1 hb1 hbb5
        rcases Nat.eq_zero_or_pos e with rfl | he
        · obtain ⟨hp, hsl, hfit, htl, -, -, -⟩ := takeFrame_ok ht
          have heq := frame_once h3.byte ht
          obtain ⟨p, rfl⟩ := Int.eq_ofNat_of_zero_le hp
          rw [Int.toNat_natCast] at hfit heq
          have hr := (h4.cut (k := p) (by omega) c0 hn0).take (k := s) (by omega)
          rw [if_neg (by omega), ← heq] at hr
          have HSL := Lib.hid hsl
          clear heq hsl ht h3
          have hs8 : 8 ≤ s := by have := HSL.out; omega
          have j4 : (p : Int) ≤ (p : Int) + s := by omega
          have j5 : (p : Int) + s ≤ c0 := by omega
          have j6 : ¬ c0 = p := by omega
          have j7 : p + s - p = s := by omega
          go_wp2_with fail
          refine (wframe _ _ _ t _ hr1 (by omega)).mono ?_
          intro _ w2 hm
          obtain ⟨v2, rfl, ho2, hb2⟩ := hm
          obtain ⟨A2, c2, rfl, hr2, -, -⟩ := ho2.form
          have hr' := hr.below' hb2
          have hB2 := below_next hB1 hb2
          clear ho2 hr hr1 h4 hB1 hb2
          go_wp2_with fail
          refine (live_true _).mono ?_
          rintro e w3 ⟨rfl, hb3⟩
          have q1 := hr2.below' hb3
          have q2 := hr'.below' hb3
          have hB3 := below_next hB2 hb3
          clear hr2 hr' hB2 hb3
          go_wp2_with fail
          refine (equal_same _ _ _ _ _ _ _ _ q1 q2).mono ?_
          rintro e w4 ⟨rfl, rfl⟩
          go_wp2
          go_ret
          exact ⟨rfl, hB3⟩
        · have hb : ((e : Int) != 0) = true := by simp; omega
          go_wp2_with fail
          refine (live_true _).mono ?_
          rintro e w3 ⟨rfl, hb3⟩
          go_wp2
          go_ret
          exact ⟨rfl, below_next hB1 hb3⟩
end Go.Proofs.Ythodmnekljbljaa
