/- The walk of LogFits: true whatever comes in. -/
import Derived.Test.YthpbcibjohakkaaLRecOpen
namespace Go.Proofs.Ythpbcibjohakkaa
set_option maxRecDepth 100000
set_option maxRecDepth 100000
open Go.RowKit

set_option maxHeartbeats 8000000 in
theorem walk_LogFits (a0 : Int) (A1 : Option Addr) (n1 c1 : Nat) (z1 : List BsD) (w : World) (ha0 : -9223372036854775808 ≤ a0 ∧ a0 ≤ 9223372036854775807) (h1 : RBs w A1 n1 z1) (hn1 : n1 ≤ c1) (hc1 : c1 ≤ 5864062014806) :
    Calls Try.prog 5 #[.int .i64 a0, .slice A1 n1 c1] w fun e w' => e = .returned (.bool true) ∧ Below w.heap.size w w' := by
  have CB := Lib.hid (lbegun w a0 ha0)
  have H1 := Lib.hid h1
  clear h1
  go_enter Try.func5, Try.ntmps5
  by_cases hin : 6 ≤ a0 ∧ a0 ≤ 16384
  · have HIN := Lib.hid hin
    clear hin
    go_upto_region 2 with (go_at_call 8; go_loud (refine CB.out.mono ?_; rintro e w1 (⟨h, -⟩ | ⟨-, d, L, S, F, rfl, hb, hU, hF, hL, hw0, hw1⟩); exact absurd HIN.out h; unfold LwC; have HB := Lib.hid hb; have HU := Lib.hid hU; have HF := Lib.hid hF; have HL := Lib.hid hL; clear hb hU hF hL CB))
    obtain ⟨u, hu⟩ : ∃ u, w1.heap.size = u := ⟨_, rfl⟩
    obtain ⟨W2, hW2⟩ : ∃ W, w1.alloc (.cells #[.pointer (some ⟨d, 0, none⟩), .pointer (some ⟨L, 0, none⟩), .int .i64 (areaSize S.last.length : Nat), .slice none 0 0, .slice none 0 0, .bool false, .bool false] 29) = W := ⟨_, rfl⟩
    rw [hW2, hu]
    have L2 := Lib.hid (show Lw w W2 u d S 1 from by
      subst hu
      refine lw_start HB.out HU.out HF.out HL.out (Nat.le_refl _) (by rw [← hW2]; exact (Below.refl _ _).alloc (Nat.le_refl _) _) ?_
      rw [← hW2]
      exact heap_alloc_new _ _)
    clear hW2 hu
    go_upto_region 6 with (go_at_call 9; refine (wlive _).mono ?_; rintro e w' ⟨rfl, rfl⟩)
    go_upto_region 7 with fail
    have HW0 := Lib.hid hw0
    have HW1 := Lib.hid hw1
    clear hw0 hw1
    go_loopw [9, 26] (fun _ i wr => ∃ (k : Nat) (S' : St), i = .int .i64 (k : Nat) ∧ k ≤ n1 ∧ Lw w wr u d S' (1 + 3 * k) ∧ 0 ≤ S'.writes ∧ S'.writes ≤ 40000 + 49155 * (k : Int)) (fun _ i _ => n1 - (intOf i).toNat)
    case atStart => exact ⟨0, S, rfl, Nat.zero_le _, L2.out, HW0.out, by have := HW1.out; omega⟩
    case round =>
      obtain ⟨k, S', rfl, hk, hL, hs0, hs1⟩ := hrel
      clear L2
      by_cases hlt : k < n1
      · obtain ⟨b, o, x, rfl, hx, hxis, hcell, hfar⟩ := H1.out.at_ hL.base hlt
        have hki : (k : Int) < (n1 : Int) := by omega
        have HK := Lib.hid hlt
        have hm1 := hxis.m
        have hl1 := hxis.l
        have HX0 := Lib.hid (H1.out.is x (List.mem_of_getElem? hx)).b
        have HFAR := Lib.hid hfar
        have hmax : 1 + 3 * k + 2 < maxSt := by unfold maxSt; omega
        have C1 := Lib.hid (lw_write hL (by omega) hs0 (by omega) 0 (.inl rfl) 0 x.A x.n x.c x.z hxis.b hfar hl1 (by omega) (by omega) none 0 0)
        have HSA := Lib.hid hs0
        have HSB := Lib.hid hs1
        have HLL := Lib.hid hl1
        have HMM := Lib.hid hm1
        have HMX := Lib.hid hmax
        have HBA := Lib.hid hL
        clear hx hL hxis hfar hlt hm1 hl1 hmax hs0 hs1
        go_wp2_with (first
          | (go_at_call 14; refine C1.out.mono ?_; rintro e w5 ⟨rfl, S5, l5, -, g1, -, g2⟩; have C2 := Lib.hid (lw_write l5 (by have := HMX.out; omega) (by have := HSA.out; omega) (by have := HSB.out; omega) 1 (.inr rfl) 0 x.A x.n x.c x.z (HX0.out.below' l5.base) HFAR.out HLL.out (by have := HMM.out; omega) (by have := HMM.out; have := HLL.out; omega) none 0 0); have G5 := Lib.hid (And.intro g1 g2); clear l5 C1 g1 g2)
          | (go_at_call 14; refine C2.out.mono ?_; rintro e w6 ⟨rfl, S6, l6, -, g1, -, g2⟩; have C3 := Lib.hid (lw_write l6 (by have := HMX.out; omega) (by have := HSA.out; have := G5.out; omega) (by have := HSB.out; have := G5.out; omega) 0 (.inl rfl) 0 x.A x.n x.c x.z (HX0.out.below' l6.base) HFAR.out HLL.out (by have := HMM.out; omega) (by have := HMM.out; have := HLL.out; omega) none 0 0); have G6 := Lib.hid (And.intro g1 g2); clear l6 C2 g1 g2)
          | (go_at_call 14; go_loud (refine C3.out.mono ?_; rintro e w7 ⟨rfl, S7, l7, -, g1, -, g2⟩; have L7 := Lib.hid l7; have G7 := Lib.hid (And.intro g1 g2); clear l7 C3 g1 g2)))
        go_roundw
        case rel => exact ⟨k + 1, S7, by go_num, HK.out, by have := L7.out; rw [show 1 + 3 * (k + 1) = 1 + 3 * k + 1 + 1 + 1 from by omega]; exact this, by have := G5.out; have := G6.out; have := G7.out; have := HSA.out; omega, by have := G5.out; have := G6.out; have := G7.out; have := HSB.out; omega⟩
        case measure => have := HK.out; simp [intOf]; omega
      · obtain rfl : k = n1 := by omega
        have C1 := Lib.hid (lw_crash hL (by unfold maxSt; omega) none 0 0 [] (ri_none wr) (fun ad e => by cases e) (by omega) (-1) (by omega))
        have HS := Lib.hid hs1
        have HS0 := Lib.hid hs0
        clear hL hlt hs0 hs1
        go_wp2_with (first
          | (go_at_call 11; go_loud (refine C1.out.mono ?_; rintro e w6 ⟨rfl, S6, l6, -, g3, -, g4⟩; have C3 := Lib.hid (lw_does l6 (by unfold maxSt; omega) (by have := HS0.out; omega) (by have := HS.out; omega) 4 0 (by omega) none 0 0 [] (RB.empty w6 _) (fun ad e => by cases e) (by omega) (by omega) (by omega) none 0 0 [] (ri_none w6) (fun ad e => by cases e) (by omega)); clear l6 C1))
          | (go_at_call 10; go_loud (refine C3.out.mono ?_; rintro e w7 ⟨rfl, S7, l7, -⟩; have L7 := Lib.hid l7; clear l7 C3)))
        go_ret
        exact ⟨rfl, L7.out.base⟩
  · go_wp2_with (first
      | (go_at_call 8; go_loud (refine CB.out.mono ?_; rintro e w1 (⟨-, rfl, hb⟩ | ⟨h, -⟩); rotate_left; exact absurd h hin; unfold zeroW; have HB := Lib.hid hb; clear CB hb))
      | (go_at_call 9; refine (wlive _).mono ?_; rintro e w' ⟨rfl, rfl⟩))
    go_ret
    exact ⟨rfl, HB.out.alloc HB.out.size _⟩
end Go.Proofs.Ythpbcibjohakkaa
