/- The walk of WireBack, where what comes in is small: what is taken of what was put is what was put. -/
import Derived.Test.YthodmnekljbljaaBack
import Derived.Test.YthodmnekljbljaaWireFramesWalk
import Derived.Test.YthodmnekljbljaaWireHeadsWalk
import Derived.BigQuiet
import Derived.Deep.QuietTactic
namespace Go.Proofs.Ythodmnekljbljaa
open Go.RowKit

set_option maxHeartbeats 2000000 in
set_option maxRecDepth 100000 in
theorem walk_WireBack (a0_0 : Int) (a0_1 : Int) (a0_2 : ByteArray) (A0_3 : Option Addr) (n0_3 c0_3 : Nat) (z0_3 : List Int) (A0_4 : Option Addr) (n0_4 c0_4 : Nat) (z0_4 : List Int) (w : World) (ha0_0 : 0 ≤ a0_0 ∧ a0_0 ≤ 18446744073709551615) (ha0_1 : -9223372036854775808 ≤ a0_1 ∧ a0_1 ≤ 9223372036854775807) (ha0_2 : a0_2.size ≤ 1048576) (h0_3 : RB w A0_3 n0_3 z0_3) (hn0_3 : n0_3 ≤ c0_3) (hc0_3 : c0_3 ≤ 1048576) (h0_4 : RB w A0_4 n0_4 z0_4) (hn0_4 : n0_4 ≤ c0_4) (hc0_4 : c0_4 ≤ 1048576) :
    Calls Try.prog 9 #[.agg #[.int .u64 a0_0, .int .i64 a0_1, .string a0_2, .slice A0_3 n0_3 c0_3, .slice A0_4 n0_4 c0_4]] w fun e w' => e = .returned (.bool true) ∧ Below w.heap.size w w' := by
  obtain ⟨u, rfl⟩ := Int.eq_ofNat_of_zero_le ha0_0.1
  have hu : u < 18446744073709551616 := by omega
  clear ha0_0
  have hlu := uintB_len u hu
  have hli := uintB_len (intN a0_1) (intN_lt _ ha0_1)
  have hlt : (textB a0_2).length ≤ 1048586 := by
    have := uintB_len a0_2.size (by omega)
    unfold textB; rw [List.length_append, strB_len]; omega
  have hl3 := h0_3.len
  have hb0 := (Below.refl w.heap.size w).alloc (Nat.le_refl _) (.cells #[.int .u64 u, .int .i64 a0_1, .string a0_2, .slice A0_3 n0_3 c0_3, .slice A0_4 n0_4 c0_4] 52)
  have T1 := Lib.hid (takeUint_back u hu z0_4)
  have T2 := Lib.hid (takeInt_back a0_1 ha0_1 z0_4)
  have T3 := Lib.hid (takeText_back a0_2 (by omega) z0_4)
  have T4 := Lib.hid (takeFrame_back z0_3 z0_4 h0_3.byte (by omega))
  have N3 := Lib.hid (nums_strB a0_2)
  have c0 : (w.alloc (.cells #[.int .u64 u, .int .i64 a0_1, .string a0_2, .slice A0_3 n0_3 c0_3, .slice A0_4 n0_4 c0_4] 52)).cell? ⟨w.heap.size, 0, none⟩ = some (.int .u64 u) := by rw [World.cell?_alloc_at _ _ _ _ rfl]; rfl
  have c1 : (w.alloc (.cells #[.int .u64 u, .int .i64 a0_1, .string a0_2, .slice A0_3 n0_3 c0_3, .slice A0_4 n0_4 c0_4] 52)).cell? ⟨w.heap.size, 1, none⟩ = some (.int .i64 a0_1) := by rw [World.cell?_alloc_at _ _ _ _ rfl]; rfl
  have c2 : (w.alloc (.cells #[.int .u64 u, .int .i64 a0_1, .string a0_2, .slice A0_3 n0_3 c0_3, .slice A0_4 n0_4 c0_4] 52)).cell? ⟨w.heap.size, 2, none⟩ = some (.string a0_2) := by rw [World.cell?_alloc_at _ _ _ _ rfl]; rfl
  have c3 : (w.alloc (.cells #[.int .u64 u, .int .i64 a0_1, .string a0_2, .slice A0_3 n0_3 c0_3, .slice A0_4 n0_4 c0_4] 52)).cell? ⟨w.heap.size, 3, none⟩ = some (.slice A0_3 n0_3 c0_3) := by rw [World.cell?_alloc_at _ _ _ _ rfl]; rfl
  have c4 : (w.alloc (.cells #[.int .u64 u, .int .i64 a0_1, .string a0_2, .slice A0_3 n0_3 c0_3, .slice A0_4 n0_4 c0_4] 52)).cell? ⟨w.heap.size, 4, none⟩ = some (.slice A0_4 n0_4 c0_4) := by rw [World.cell?_alloc_at _ _ _ _ rfl]; rfl
  go_enter Try.func9, Try.ntmps9
  go_wp2_with fail
  go_quiet (fail)
  clear c0 c1 c2 c3 c4
  obtain ⟨w0, hw0⟩ : ∃ w0, w0 = (w.alloc (.cells #[.int .u64 u, .int .i64 a0_1, .string a0_2, .slice A0_3 n0_3 c0_3, .slice A0_4 n0_4 c0_4] 52)).drewN nq := ⟨_, rfl⟩
  have hb1 : Below w.heap.size w w0 := by rw [hw0]; exact hb0.trans (Joins.below_draws _ _ _)
  simp only [← hw0]
  clear hw0 hb0
  have g3 := h0_3.below' hb1
  have g4 := h0_4.below' hb1
  clear h0_3 h0_4
  go_wp2_with fail
  refine (live_true _).mono ?_
  rintro e w1 ⟨rfl, hb2⟩
  have B1 := below_next hb1 hb2
  have hb1s := B1.size
  have g3 := g3.below' hb2
  have g4 := g4.below' hb2
  clear hb1 hb2
  go_wp2_with fail
  -- numbers
  refine (wuint u _ hu).mono ?_
  rintro e w2 ⟨v, rfl, ho, hb2⟩
  have sz := hb2.size
  have g4' := g4.below' hb2
  go_wp2_with (at_builtin; refine ob_append rfl (.tmp 36) (.tmp 37) rfl w1.heap.size _ _ rfl ho _ _ _ _ rfl g4' (by omega) sz ?_; intro v' w3 ho' hb3 hg3; obtain ⟨Av, cv, rfl, hrv, hcv, -⟩ := ho'.form)
  simp only [List.length_append] at hrv hcv
  have K := hb2.trans hb3
  have B3 := below_next B1 K
  have k3 := g3.below' K
  have k4 := g4.below' K
  have hl4 := g4.len
  have HL4 := Lib.hid hl4
  clear hb2 hb3 g3 g4 g4' ho ho' hg3 sz B1 K hl4
  refine (wtakeUint _ _ _ (uintB u ++ z0_4) 0 _ hrv (by have := HL4.out; omega) hcv).mono ?_
  rintro _ w' ⟨he, rfl⟩
  rw [T1.out] at he
  simp only [Tuple3] at he
  subst he
  clear hrv hcv
  go_wp2_with fail
  refine (wuint u _ hu).mono ?_
  intro e w4 hm
  obtain ⟨A5, c5, rfl, -, -, -, hb5⟩ := make_form hm
  have B4 := below_next B3 hb5
  have g3 := k3.below' hb5
  have g4 := k4.below' hb5
  clear hm B3 k3 k4 hb5
  go_wp2_with fail
  refine (wint a0_1 _ ha0_1).mono ?_
  rintro e x2 ⟨v2, rfl, ho, hb2⟩
  have sz := hb2.size
  have g4' := g4.below' hb2
  go_wp2_with (at_builtin; refine ob_append rfl (.tmp 59) (.tmp 60) rfl w4.heap.size _ _ rfl ho _ _ _ _ rfl g4' (by omega) sz ?_; intro v' y2 ho' hb3 hg3; obtain ⟨Av, cv, rfl, hrv, hcv, -⟩ := ho'.form)
  simp only [List.length_append] at hrv hcv
  have K := hb2.trans hb3
  have B3 := below_next B4 K
  have k3 := g3.below' K
  have k4 := g4.below' K
  clear hb2 hb3 g3 g4 g4' ho ho' hg3 sz B4 K
  refine (wtakeInt _ _ _ (uintB (intN a0_1) ++ z0_4) 0 _ hrv (by have := HL4.out; omega) hcv).mono ?_
  rintro _ w' ⟨he, rfl⟩
  rw [T2.out] at he
  simp only [Tuple3i] at he
  subst he
  clear hrv hcv
  go_wp2_with fail
  refine (wint a0_1 _ ha0_1).mono ?_
  intro e w5 hm
  obtain ⟨A2, c2, rfl, -, -, -, hb5⟩ := make_form hm
  have B4 := below_next B3 hb5
  have g3 := k3.below' hb5
  have g4 := k4.below' hb5
  clear hm B3 k3 k4 hb5
  go_wp2_with fail
  refine (wtext a0_2 _ (by omega)).mono ?_
  rintro e x3 ⟨v3, rfl, ho, hb2⟩
  have sz := hb2.size
  have g4' := g4.below' hb2
  go_wp2_with (at_builtin; refine ob_append rfl (.tmp 82) (.tmp 83) rfl w5.heap.size _ _ rfl ho _ _ _ _ rfl g4' (by omega) sz ?_; intro v' y3 ho' hb3 hg3; obtain ⟨Av, cv, rfl, hrv, hcv, -⟩ := ho'.form)
  simp only [List.length_append] at hrv hcv
  have K := hb2.trans hb3
  have B3 := below_next B4 K
  have k3 := g3.below' K
  have k4 := g4.below' K
  clear hb2 hb3 g3 g4 g4' ho ho' hg3 sz B4 K
  refine (wtakeText _ _ _ (textB a0_2 ++ z0_4) 0 (a0_2.size : Int) _ hrv (by have := HL4.out; omega) hcv (by omega)).mono ?_
  rintro _ w' ⟨he, rfl⟩
  rw [T3.out] at he
  simp only [TupleT, N3.out] at he
  subst he
  clear hrv hcv
  go_wp2_with fail
  refine (wtext a0_2 _ (by omega)).mono ?_
  intro e w6 hm
  obtain ⟨A3, c3, rfl, -, -, -, hb5⟩ := make_form hm
  have B4 := below_next B3 hb5
  have g3 := k3.below' hb5
  have g4 := k4.below' hb5
  clear hm B3 k3 k4 hb5
  go_wp2_with fail
  refine (wframe _ _ _ z0_3 _ g3 (by omega)).mono ?_
  rintro e x4 ⟨v4, rfl, ho, hb2⟩
  have sz := hb2.size
  have g4' := g4.below' hb2
  have HLF := Lib.hid (frameB_len z0_3)
  have hlf : (frameB z0_3).length ≤ 1048584 := by rw [HLF.out]; omega
  go_wp2_with (at_builtin; refine ob_append rfl (.tmp 111) (.tmp 112) rfl w6.heap.size _ _ rfl ho _ _ _ _ rfl g4' (by omega) sz ?_; intro v' y4 ho' hb3 hg3; obtain ⟨Av, cv, rfl, hrv, hcv, -⟩ := ho'.form)
  simp only [List.length_append] at hrv hcv
  have K := hb2.trans hb3
  have B3 := below_next B4 K
  have k3 := g3.below' K
  clear hb2 hb3 g3 g4 g4' ho ho' hg3 sz B4 K
  refine (wtakeFrame _ _ _ (frameB z0_3 ++ z0_4) 0 _ hrv (by have := HL4.out; omega) hcv).mono ?_
  rw [T4.out]
  intro e w7 hm
  obtain ⟨A7, c7, rfl, hr7, hb7⟩ := takesF_form hm
  have B4 := below_next B3 hb7
  have k3 := k3.below' hb7
  clear hm hrv hcv B3 hb7
  simp only at hr7
  rw [hl3] at hr7
  go_wp2_with fail
  refine (equal_same _ _ _ _ _ _ _ _ hr7 k3).mono ?_
  rintro e w8 ⟨rfl, rfl⟩
  go_wp2
  go_ret
  exact ⟨rfl, B4⟩
end Go.Proofs.Ythodmnekljbljaa
