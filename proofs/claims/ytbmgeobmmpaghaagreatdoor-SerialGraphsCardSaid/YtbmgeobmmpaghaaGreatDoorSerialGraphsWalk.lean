/- Layer 11: SerialGraphs, walked. -/
import Derived.Test.YtbmgeobmmpaghaaGreatDoorKAE
set_option linter.unusedVariables false
namespace Go.Proofs.YtbmgeobmmpaghaaGreatDoor
set_option maxRecDepth 100000
open Go.RowKit

section
variable {w : World} {A B : Option Addr} {n c m d : Nat} {cs : List Int} {ac : List Ac}
set_option maxHeartbeats 32000000 in
theorem walkGraphs (h : Hist w A n c B m d cs ac) :
    Calls Tryz.prog 3 #[histV A n c B m d] w fun e w' => e = .returned (.bool true) ∧ Below w.heap.size w w' := by
  obtain ⟨W0, hB⟩ := h.box
  have HB := Lib.hid hB
  have HW := Lib.hid hB.eq
  have x0 := hB.x0
  have x1 := hB.x1
  have CL := Lib.hid wlLive
  by_cases hR : Right cs ac
  · have CR := Lib.hid (wlRightOk hB.h hR)
    have CG := Lib.hid (fun W (hW : Below W0.heap.size W0 W) => wsGraphOk (hB.h.gw hW) hR)
    have CP := Lib.hid (fun W (hW : Below W0.heap.size W0 W) => wsPivOk (hB.h.gw hW) hR)
    have KG := Lib.hid (fun W (hW : Below W0.heap.size W0 W) => wrGraph (hB.h.gw hW) (by rw [← h.cl]; exact hR.lc) (by rw [← h.al]; exact hR.la))
    have KP := Lib.hid (fun W (hW : Below W0.heap.size W0 W) => wrPivots (hB.h.gw hW) hR)
    have HGL := Lib.hid (show (graphP cs ac).length ≤ 8192 by have := hR.edges_len; unfold edgesP at this; rwa [List.length_map] at this)
    have HPL := Lib.hid (show (pivP cs (graphP cs ac)).length ≤ 4096 by
      have h1 := List.length_filter_le (pvB (graphP cs ac)) (riseP cs)
      have h2 := rise_len cs cs.length
      rw [List.take_length] at h2
      have := hR.lc
      unfold pivP; omega)
    unfold histV at CR CG CP KG KP ⊢
    clear h hB hR
    obtain ⟨GR, hGR⟩ : ∃ g, graphP cs ac = g := ⟨_, rfl⟩
    rw [hGR] at CG CP KG KP HGL HPL
    obtain ⟨PV, hPV⟩ : ∃ g, pivP cs GR = g := ⟨_, rfl⟩
    rw [hPV] at CP KP HPL
    clear hGR hPV
    go_enter Tryz.func3, Tryz.ntmps3
    go_upto_region 1 with fail
    rw [HW.out]
    go_upto_region 2 with (go_at_call 8; go_loud (refine CR.out.mono ?_; rintro e w1 ⟨rfl, b1⟩; have B1 := Lib.hid b1; have y0 := keep_below x0 b1; have y1 := keep_below x1 b1; clear b1))
    clear x0 x1
    go_upto_region 4 with (go_at_call 9; go_loud (refine (CL.out _).mono ?_; rintro e w2 ⟨rfl, b2⟩; have B2 := Lib.hid (below_next B1.out b2); have z0 := keep_below y0 b2; have z1 := keep_below y1 b2; clear b2))
    clear y0 y1
    go_upto_region 5 with (go_at_call 10; go_loud (refine (CG.out _ B2.out).mono ?_; rintro e w3 ⟨v3, rfl, s3, b3⟩; have S3 := Lib.hid s3; have B3 := Lib.hid (below_next B2.out b3); have y0 := keep_below z0 b3; have y1 := keep_below z1 b3; clear b3 s3))
    clear z0 z1
    go_upto_region 6 with (go_at_call 11; go_loud (refine (CP.out _ B3.out).mono ?_; rintro e w4 ⟨v4, rfl, s4, b4⟩; have S4 := Lib.hid s4; have Q4 := Lib.hid b4; have B4 := Lib.hid (below_next B3.out b4); have z0 := keep_below y0 b4; have z1 := keep_below y1 b4; clear b4 s4))
    clear y0 y1
    obtain ⟨A3, c3, rfl, h3, -⟩ := S3.out.form
    obtain ⟨A4, c4, rfl, h4, -⟩ := S4.out.form
    have h4 : SB w4 A4 PV.length (numC PV) := by have e : seI.s * PV.length = PV.length := Nat.one_mul _; rwa [e] at h4
    have H3 := Lib.hid (show SB w4 A3 (3 * GR.length) (cellsE dpC GR) from h3.gw Q4.out)
    have H4 := Lib.hid h4
    clear h3 h4
    go_wp2_with (first
      | (go_at_call 13; go_loud (refine (KG.out _ B4.out).mono ?_; rintro e w5 ⟨v5, rfl, ⟨A5, c5, rfl, h5, -, -⟩, b5⟩; have B5 := Lib.hid (below_next B4.out b5); have E5 := Lib.hid (weqD (c1 := c3) (c2 := c5) (H3.out.gw b5) h5 (by have := HGL.out; omega)); have Q5 := Lib.hid b5; have y0 := keep_below z0 b5; have y1 := keep_below z1 b5; clear b5 h5))
      | (go_at_call 12; go_loud (refine E5.out.mono ?_; rintro e w6 ⟨rfl, b6⟩; have B6 := Lib.hid (below_next B5.out b6); have Q6 := Lib.hid (below_next Q5.out b6); have x0 := keep_below y0 b6; have x1 := keep_below y1 b6; clear b6))
      | (go_at_call 15; go_loud (refine (KP.out _ B6.out).mono ?_; rintro e w7 ⟨v7, rfl, s7, b7⟩; obtain ⟨A7, c7, rfl, h7, -⟩ := s7.form; have B7 := Lib.hid (below_next B6.out b7); have E7 := Lib.hid (weqI (c1 := c4) (c2 := c7) (H4.out.gw (below_next Q6.out b7)) (show SB w7 A7 PV.length (numC PV) by have e : seI.s * PV.length = PV.length := Nat.one_mul _; rwa [e] at h7) (by have := HPL.out; omega)); clear b7 h7 s7))
      | (go_at_call 14; go_loud (refine E7.out.mono ?_; rintro e w8 ⟨rfl, b8⟩; have B8 := Lib.hid (below_next B7.out b8); clear b8)))
    go_ret
    exact ⟨rfl, below_next HB.out.below B8.out⟩
  · have CR := Lib.hid (wlRightNo hB.h hR)
    unfold histV at CR ⊢
    clear h hB hR
    go_enter Tryz.func3, Tryz.ntmps3
    go_upto_region 1 with fail
    rw [HW.out]
    go_wp2_with (first
      | (go_at_call 8; go_loud (refine CR.out.mono ?_; rintro e w1 ⟨rfl, b1⟩; have B1 := Lib.hid b1; clear b1))
      | (go_at_call 9; go_loud (refine (CL.out _).mono ?_; rintro e w2 ⟨rfl, b2⟩; have B2 := Lib.hid (below_next B1.out b2); clear b2)))
    go_ret
    exact ⟨rfl, below_next HB.out.below B2.out⟩
end
/-- The given statement's call, for any history as it comes in. -/
theorem walk_SerialGraphs (A : Option Addr) (n c : Nat) (B : Option Addr) (m d : Nat) (cs : List Int) (ac : List Ac) (w : World) (_ : True) (h : Hist w A n c B m d cs ac) :
    Calls Tryz.prog 3 #[.agg #[.slice A n c, .slice B m d]] w fun e w' => e = .returned (.bool true) ∧ Below w.heap.size w w' := walkGraphs h
end Go.Proofs.YtbmgeobmmpaghaaGreatDoor
