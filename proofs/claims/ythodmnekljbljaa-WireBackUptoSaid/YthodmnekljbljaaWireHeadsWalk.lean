/- The walk of WireHeads: no number's bytes and no text's bytes begin another's. -/
import Derived.Test.YthodmnekljbljaaHeld
import Derived.Test.YthodmnekljbljaaPrefix
import Derived.Deep.RegionHeld3
namespace Go.Proofs.Ythodmnekljbljaa
open Go.RowKit

theorem make_form {w w' : World} {zs : List Int} {e : Ending} (h : Makes w zs e w') : ∃ A c, e = .returned (.slice A zs.length c) ∧ RB w' A zs.length zs ∧ zs.length ≤ c ∧ c ≤ 9223372036854775807 ∧ Below w.heap.size w w' := by
  obtain ⟨v, rfl, ho, hb⟩ := h
  obtain ⟨A, c, rfl, hr, hc, hm⟩ := ho.form
  exact ⟨A, c, rfl, hr, hc, by simpa [maxLen] using hm, hb⟩

set_option maxHeartbeats 1000000 in
set_option maxRecDepth 100000 in
theorem walk_WireHeads (a0_0 : Int) (a0_1 : Int) (a0_2 : ByteArray) (A0_3 : Option Addr) (n0_3 c0_3 : Nat) (z0_3 : List Int) (A0_4 : Option Addr) (n0_4 c0_4 : Nat) (z0_4 : List Int) (a1_0 : Int) (a1_1 : Int) (a1_2 : ByteArray) (A1_3 : Option Addr) (n1_3 c1_3 : Nat) (z1_3 : List Int) (A1_4 : Option Addr) (n1_4 c1_4 : Nat) (z1_4 : List Int) (w : World) (ha0_0 : 0 ≤ a0_0 ∧ a0_0 ≤ 18446744073709551615) (ha0_1 : -9223372036854775808 ≤ a0_1 ∧ a0_1 ≤ 9223372036854775807) (ha0_2 : a0_2.size ≤ 140737488351232) (h0_3 : RB w A0_3 n0_3 z0_3) (hn0_3 : n0_3 ≤ c0_3) (hc0_3 : c0_3 ≤ 140737488351232) (h0_4 : RB w A0_4 n0_4 z0_4) (hn0_4 : n0_4 ≤ c0_4) (hc0_4 : c0_4 ≤ 140737488351232) (ha1_0 : 0 ≤ a1_0 ∧ a1_0 ≤ 18446744073709551615) (ha1_1 : -9223372036854775808 ≤ a1_1 ∧ a1_1 ≤ 9223372036854775807) (ha1_2 : a1_2.size ≤ 140737488351232) (h1_3 : RB w A1_3 n1_3 z1_3) (hn1_3 : n1_3 ≤ c1_3) (hc1_3 : c1_3 ≤ 140737488351232) (h1_4 : RB w A1_4 n1_4 z1_4) (hn1_4 : n1_4 ≤ c1_4) (hc1_4 : c1_4 ≤ 140737488351232) :
    Calls Try.prog 11 #[.agg #[.int .u64 a0_0, .int .i64 a0_1, .string a0_2, .slice A0_3 n0_3 c0_3, .slice A0_4 n0_4 c0_4], .agg #[.int .u64 a1_0, .int .i64 a1_1, .string a1_2, .slice A1_3 n1_3 c1_3, .slice A1_4 n1_4 c1_4]] w fun e w' => e = .returned (.bool true) ∧ Below w.heap.size w w' := by
  obtain ⟨u, rfl⟩ := Int.eq_ofNat_of_zero_le ha0_0.1
  obtain ⟨v, rfl⟩ := Int.eq_ofNat_of_zero_le ha1_0.1
  have hu : u < 18446744073709551616 := by omega
  have hv : v < 18446744073709551616 := by omega
  clear h0_3 h0_4 h1_3 h1_4 ha0_0 ha1_0 ha0_1 ha1_1 hn0_3 hn0_4 hn1_3 hn1_4 hc0_3 hc0_4 hc1_3 hc1_4
  have hb0 : Below w.heap.size w ((w.alloc (.cells #[.int .u64 u, .int .i64 a0_1, .string a0_2, .slice A0_3 n0_3 c0_3, .slice A0_4 n0_4 c0_4] 52)).alloc (.cells #[.int .u64 v, .int .i64 a1_1, .string a1_2, .slice A1_3 n1_3 c1_3, .slice A1_4 n1_4 c1_4] 52)) :=
    ((Below.refl w.heap.size w).alloc (Nat.le_refl _) _).alloc (by simp) _
  obtain ⟨w0, hw0⟩ : ∃ w0, w0 = (w.alloc (.cells #[.int .u64 u, .int .i64 a0_1, .string a0_2, .slice A0_3 n0_3 c0_3, .slice A0_4 n0_4 c0_4] 52)).alloc (.cells #[.int .u64 v, .int .i64 a1_1, .string a1_2, .slice A1_3 n1_3 c1_3, .slice A1_4 n1_4 c1_4] 52) := ⟨_, rfl⟩
  have hx0 : w0.cell? ⟨w.heap.size, 0, none⟩ = some (.int .u64 u) := by rw [hw0, World.cell?_alloc_past _ _ _ (by simp), World.cell?_alloc_at _ _ _ _ rfl]; rfl
  have hx2 : w0.cell? ⟨w.heap.size, 2, none⟩ = some (.string a0_2) := by rw [hw0, World.cell?_alloc_past _ _ _ (by simp), World.cell?_alloc_at _ _ _ _ rfl]; rfl
  have hy0 : w0.cell? ⟨w.heap.size + 1, 0, none⟩ = some (.int .u64 v) := by rw [hw0, World.cell?_alloc_at _ _ _ _ (by simp)]; rfl
  have hy2 : w0.cell? ⟨w.heap.size + 1, 2, none⟩ = some (.string a1_2) := by rw [hw0, World.cell?_alloc_at _ _ _ _ (by simp)]; rfl
  rw [← hw0] at hb0
  have K := Lib.hid fun W (hW : Below w0.heap.size w0 W) => (⟨keep_below hx0 hW, keep_below hx2 hW, keep_below hy0 hW, keep_below hy2 hW⟩ : W.cell? ⟨w.heap.size, 0, none⟩ = some (.int .u64 u) ∧ W.cell? ⟨w.heap.size, 2, none⟩ = some (.string a0_2) ∧ W.cell? ⟨w.heap.size + 1, 0, none⟩ = some (.int .u64 v) ∧ W.cell? ⟨w.heap.size + 1, 2, none⟩ = some (.string a1_2))
  have k0 := K.out w0 (Below.refl _ _)
  have B0 := Below.refl w0.heap.size w0
  have B0' : Below w0.heap.size w0 w0.drew := B0.drew
  go_enter Try.func11, Try.ntmps11
  go_wp2_with fail
  simp only [← hw0]
  clear hw0 hx0 hx2 hy0 hy2
  have tok1 : True := trivial
  go_region_held3 (fun w' => w'.cell? ⟨w.heap.size, 0, none⟩ = some (.int .u64 u) ∧ w'.cell? ⟨w.heap.size, 2, none⟩ = some (.string a0_2) ∧ w'.cell? ⟨w.heap.size + 1, 0, none⟩ = some (.int .u64 v) ∧ w'.cell? ⟨w.heap.size + 1, 2, none⟩ = some (.string a1_2))
    (first | exact k0 | exact k1 | exact k2)
    (first
      | (go_at_call 16; have _t := tok1; refine (wuint u _ hu).mono ?_; intro e w1 hm; obtain ⟨A1, c1, rfl, hr1, hc1, hm1, hb1⟩ := make_form hm; have B1 := below_next B0' hb1; have k1 := K.out _ B1; clear tok1 hm)
      | (go_at_call 16; refine (wuint v _ hv).mono ?_; intro e w2 hm; obtain ⟨A2, c2, rfl, hr2, hc2, hm2, hb2⟩ := make_form hm; have B2 := below_next B1 hb2; have k2 := K.out _ B2; clear hm))
  clear k0 k1 B0 B0' B1 hb1
  have B2' : Below w0.heap.size w0 w2.drew := B2.drew
  have tok2 : True := trivial
  go_wp2_with fail
  go_region_held3 (fun w' => w'.cell? ⟨w.heap.size, 0, none⟩ = some (.int .u64 u) ∧ w'.cell? ⟨w.heap.size, 2, none⟩ = some (.string a0_2) ∧ w'.cell? ⟨w.heap.size + 1, 0, none⟩ = some (.int .u64 v) ∧ w'.cell? ⟨w.heap.size + 1, 2, none⟩ = some (.string a1_2))
    (first | exact k2 | exact k3 | exact k4)
    (first
      | (go_at_call 26; have _t := tok2; refine (wtext a0_2 _ ha0_2).mono ?_; intro e w3 hm; obtain ⟨A3, c3, rfl, hr3, hc3, hm3, hb3⟩ := make_form hm; have B3 := below_next B2' hb3; have k3 := K.out _ B3; clear tok2 hm)
      | (go_at_call 26; refine (wtext a1_2 _ ha1_2).mono ?_; intro e w4 hm; obtain ⟨A4, c4, rfl, hr4, hc4, hm4, hb4⟩ := make_form hm; have B4 := below_next B3 hb4; have k4 := K.out _ B4; clear hm))
  have r1 := ((hr1.below' hb2).drew.below' hb3).below' hb4
  have r2 := (hr2.drew.below' hb3).below' hb4
  have r3 := hr3.below' hb4
  clear hr1 hr2 hr3 hb2 hb3 hb4 B2 B2' B3 k2 k3
  go_wp2_with fail
  refine (live_true _).mono ?_
  rintro e w5 ⟨rfl, hb5⟩
  have B5 := below_next B4 hb5
  obtain ⟨d1, d2, d3, d4⟩ := K.out _ B5
  have r1 := r1.below' hb5
  have r2 := r2.below' hb5
  have r3 := r3.below' hb5
  have r4 := hr4.below' hb5
  have hfin := below_next hb0 B5
  clear k4 B4 hb5 B5 K hr4
  by_cases huv : u = v
  · subst huv
    by_cases hst : a0_2 = a1_2
    · subst hst
      go_wp2
      go_ret
      exact ⟨rfl, hfin⟩
    · have hs : ¬ a0_2.toList = a1_2.toList := fun e => hst (strB_inj (by unfold strB; rw [← Lib.toList_data, ← Lib.toList_data, e]))
      have P := Lib.hid (prefix_no _ _ _ _ c3 c4 _ _ w5 r3 r4 hc3 hm3 (by omega) (fun r e => hst (textB_head e).symm))
      go_wp2_with fail
      refine P.out.mono ?_
      rintro e w6 ⟨rfl, rfl⟩
      go_wp2
      go_ret
      exact ⟨rfl, hfin⟩
  · have hn : ((u : Int) == (v : Int)) = false := by simp; omega
    have Q := Lib.hid (prefix_no _ _ _ _ c1 c2 _ _ w5 r1 r2 hc1 hm1 (by omega) (fun r e => huv (uintB_head e).symm))
    by_cases hst : a0_2 = a1_2
    · subst hst
      go_wp2_with fail
      refine Q.out.mono ?_
      rintro e w6 ⟨rfl, rfl⟩
      go_wp2
      go_ret
      exact ⟨rfl, hfin⟩
    · have hs : ¬ a0_2.toList = a1_2.toList := fun e => hst (strB_inj (by unfold strB; rw [← Lib.toList_data, ← Lib.toList_data, e]))
      have P := Lib.hid (prefix_no _ _ _ _ c3 c4 _ _ w5 r3 r4 hc3 hm3 (by omega) (fun r e => hst (textB_head e).symm))
      go_wp2_with fail
      refine Q.out.mono ?_
      rintro e w6 ⟨rfl, rfl⟩
      go_wp2_with fail
      refine P.out.mono ?_
      rintro e w7 ⟨rfl, rfl⟩
      go_wp2
      go_ret
      exact ⟨rfl, hfin⟩
end Go.Proofs.Ythodmnekljbljaa
