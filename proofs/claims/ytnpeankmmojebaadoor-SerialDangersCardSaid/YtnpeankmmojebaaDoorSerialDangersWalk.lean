/- Layer 11: SerialDangers, walked. -/
import Derived.Test.YtnpeankmmojebaaDoorSeTo
import Derived.Test.YtnpeankmmojebaaDoorJBK
import Derived.Test.YtnpeankmmojebaaDoorJBP
set_option linter.unusedVariables false
namespace Go.Proofs.YtnpeankmmojebaaDoor
set_option maxRecDepth 100000
open Go.RowKit

/-- Over snapshots, a round that there is has two antidependencies one behind the other, and a pivot. -/
theorem dangers_of {cs : List Int} {ac : List Ac} {M : List Nat} (hR : Right cs ac) (hS : SnapsP cs ac) (hM : LayP (edgeH cs ac) cs.length M) (hs : ∀ v, v < cs.length → rdyB (edgeH cs ac) M v = false) (hl : M.length ≠ cs.length) {l : List Int} (hr : RdIs cs ac l) :
    2 ≤ l.length ∧ (∃ i0, i0 < l.length ∧ TwoP (graphP cs ac) l l.length i0) ∧ 0 < (pivP cs (graphP cs ac)).length := by
  obtain ⟨h2, hn⟩ := round_next hR hM hs hl hr
  have hat : ∀ i, i < l.length → l[i]? = some (l.getD (i % l.length) 0) := fun i hi => by
    rw [Nat.mod_eq_of_lt hi, List.getD_eq_getElem?_getD, List.getElem?_eq_getElem hi]; rfl
  obtain ⟨i, hi, d1, d2⟩ := two_rw hR hS (r := fun i => l.getD (i % l.length) 0) (n := l.length) (by omega) (fun i => by simp) (fun i => by
    obtain ⟨x, y, hx, hy, hld⟩ := hn (i % l.length) (Nat.mod_lt _ (by omega))
    unfold leadB at hld
    rw [List.any_eq_true] at hld
    obtain ⟨d, hd, he⟩ := hld
    rw [Bool.and_eq_true, decide_eq_true_eq, decide_eq_true_eq] at he
    refine ⟨d, hd, ?_, ?_⟩
    · rw [he.1, List.getD_eq_getElem?_getD, hx]; rfl
    · have e : (i % l.length + 1) % l.length = (i + 1) % l.length := by simp [Nat.add_mod]
      rw [e] at hy
      rw [he.2, List.getD_eq_getElem?_getD, hy]; rfl)
  refine ⟨h2, ⟨i, hi, fun a b c ha hb hc => ?_⟩, ?_⟩
  · have ea : l.getD (i % l.length) 0 = a := by rw [Nat.mod_eq_of_lt hi, List.getD_eq_getElem?_getD, ha]; rfl
    have eb : l.getD ((i + 1) % l.length) 0 = b := by rw [List.getD_eq_getElem?_getD, hb]; rfl
    have ec : l.getD ((i + 2) % l.length) 0 = c := by rw [List.getD_eq_getElem?_getD, hc]; rfl
    rw [ea, eb] at d1
    rw [eb, ec] at d2
    exact ⟨d1, d2⟩
  · refine List.length_pos_of_mem (a := l.getD ((i + 1) % l.length) 0) ?_
    unfold pivP
    rw [List.mem_filter]
    refine ⟨((rise_is cs).2 _).2 (hR.graph_mem d1).2.1, ?_⟩
    unfold pvB toW frW
    rw [Bool.and_eq_true, List.any_eq_true, List.any_eq_true]
    exact ⟨⟨_, d1, by simp⟩, ⟨_, d2, by simp⟩⟩
section
variable {w : World} {A B : Option Addr} {n c m d : Nat} {cs : List Int} {ac : List Ac}
set_option maxHeartbeats 32000000 in
theorem wlDangersNo (h : Hist w A n c B m d cs ac) (hR : ¬ Right cs ac) :
    Calls Tryd.prog 4 #[histV A n c B m d] w fun e w' => e = .returned (.bool true) ∧ Below w.heap.size w w' := by
  obtain ⟨W0, hB⟩ := h.box
  have HB := Lib.hid hB
  have HW := Lib.hid hB.eq
  have X0 := Lib.hid hB.x0
  have X1 := Lib.hid hB.x1
  have CL := Lib.hid wlLive
  have CC := Lib.hid (fun W (hW : Below W0.heap.size W0 W) => wrCheck (hB.h.gw hW))
  rw [errH_not hR] at CC
  unfold histV at CC ⊢
  clear h hB hR
  go_enter Tryd.func4, Tryd.ntmps4
  go_upto_region 1 with fail
  rw [HW.out]
  go_upto_region 2 with (first
    | (go_at_call 7; go_loud (refine (CL.out _).mono ?_; rintro e w3 ⟨rfl, b3⟩; have B3 := Lib.hid b3; have y0 := keep_below X0.out b3; have y1 := keep_below X1.out b3; clear b3))
    | (go_at_call 8; go_loud (refine (CC.out _ B3.out).mono ?_; rintro e w4 ⟨rfl, b4⟩; have B4 := Lib.hid (below_next B3.out b4); clear b4)))
  go_wp2_with (go_at_call 7; go_loud (refine (CL.out _).mono ?_; rintro e w5 ⟨rfl, b5⟩; have B5 := Lib.hid (below_next B4.out b5); clear b5))
  go_ret
  exact ⟨rfl, below_next HB.out.below B5.out⟩
set_option maxHeartbeats 32000000 in
theorem wlDangersSn (h : Hist w A n c B m d cs ac) (hR : Right cs ac) (hS : ¬ SnapsP cs ac) :
    Calls Tryd.prog 4 #[histV A n c B m d] w fun e w' => e = .returned (.bool true) ∧ Below w.heap.size w w' := by
  obtain ⟨W0, hB⟩ := h.box
  have HB := Lib.hid hB
  have HW := Lib.hid hB.eq
  have X0 := Lib.hid hB.x0
  have X1 := Lib.hid hB.x1
  have CL := Lib.hid wlLive
  have CC := Lib.hid (fun W (hW : Below W0.heap.size W0 W) => wrCheck (hB.h.gw hW))
  rw [errH_ok hR] at CC
  have CS := Lib.hid (fun W (hW : Below W0.heap.size W0 W) => wrSnapshots (hB.h.gw hW) hR)
  rw [snapsB_no hS] at CS
  unfold histV at CC CS ⊢
  clear h hB hR hS
  go_enter Tryd.func4, Tryd.ntmps4
  go_upto_region 1 with fail
  rw [HW.out]
  go_upto_region 2 with (first
    | (go_at_call 7; go_loud (refine (CL.out _).mono ?_; rintro e w3 ⟨rfl, b3⟩; have B3 := Lib.hid b3; have y0 := keep_below X0.out b3; have y1 := keep_below X1.out b3; clear b3))
    | (go_at_call 8; go_loud (refine (CC.out _ B3.out).mono ?_; rintro e w4 ⟨rfl, b4⟩; have B4 := Lib.hid (below_next B3.out b4); have z0 := keep_below y0 b4; have z1 := keep_below y1 b4; clear b4))
    | (go_at_call 13; go_loud (refine (CS.out _ B4.out).mono ?_; rintro e w5 ⟨rfl, b5⟩; have B5 := Lib.hid (below_next B4.out b5); clear b5)))
  go_wp2_with (go_at_call 7; go_loud (refine (CL.out _).mono ?_; rintro e w6 ⟨rfl, b6⟩; have B6 := Lib.hid (below_next B5.out b6); clear b6))
  go_ret
  exact ⟨rfl, below_next HB.out.below B6.out⟩
set_option maxHeartbeats 64000000 in
theorem wlDangersYes (h : Hist w A n c B m d cs ac) (hR : Right cs ac) (hS : SnapsP cs ac) (hT : TzAt w) {M : List Nat} (hM : FillP (edgeH cs ac) n [] M) :
    Calls Tryd.prog 4 #[histV A n c B m d] w fun e w' => e = .returned (.bool true) ∧ Below w.heap.size w w' := by
  obtain ⟨W0, hB⟩ := h.box
  have HB := Lib.hid hB
  have HW := Lib.hid hB.eq
  have X0 := Lib.hid hB.x0
  have X1 := Lib.hid hB.x1
  have hcl : cs.length = n := h.cl
  have CL := Lib.hid wlLive
  have CC := Lib.hid (fun W (hW : Below W0.heap.size W0 W) => wrCheck (hB.h.gw hW))
  rw [errH_ok hR] at CC
  have CS := Lib.hid (fun W (hW : Below W0.heap.size W0 W) => wrSnapshots (hB.h.gw hW) hR)
  rw [snapsB_yes hS] at CS
  have CO := Lib.hid (fun W (hW : Below W0.heap.size W0 W) => wsOrderOk (hB.h.gw hW) hR ((hT.below hB.below).below hW) hM)
  have CR := Lib.hid (fun W (hW : Below W0.heap.size W0 W) => wsRoundOk (hB.h.gw hW) hR)
  have CP := Lib.hid (fun W (hW : Below W0.heap.size W0 W) => wsPivOk (hB.h.gw hW) hR)
  have HLE := Lib.hid (fun (l : List Int) (hl : RdIs cs ac l) => hl.len hR)
  have CT := Lib.hid (fun W (hW : Below W0.heap.size W0 W) (oA : Option Addr) (on oc : Nat) (l : List Int) (hs : SB W oA on (numC l)) (hl : l.length = on) (hon : on ≤ 4096) (i0 : Nat) (hi : i0 < on) (hex : TwoP (graphP cs ac) l on i0) => wrTwo (oc := oc) (hB.h.gw hW) hR hs hl hon hi hex)
  have HPL := Lib.hid (show (pivP cs (graphP cs ac)).length ≤ 4096 by
    have h1 : (pivP cs (graphP cs ac)).length ≤ (riseP cs).length := List.length_filter_le _ _
    rw [hR.rl] at h1
    have := hR.lc; omega)
  have HDA := Lib.hid (fun (hl : M.length ≠ n) (l : List Int) (hr : RdIs cs ac l) => dangers_of hR hS (M := M) (by rw [hcl]; exact hM.lay .nil) (by rw [hcl]; exact hM.over) (by rw [hcl]; exact hl) hr)
  unfold histV at CC CS CO CR CP CT ⊢
  clear h hB hR hS hT hM hcl
  go_enter Tryd.func4, Tryd.ntmps4
  go_upto_region 1 with fail
  rw [HW.out]
  go_upto_region 3 with (first
    | (go_at_call 7; go_loud (refine (CL.out _).mono ?_; rintro e w3 ⟨rfl, b3⟩; have B3 := Lib.hid b3; have y0 := keep_below X0.out b3; have y1 := keep_below X1.out b3; clear b3))
    | (go_at_call 8; go_loud (refine (CC.out _ B3.out).mono ?_; rintro e w4 ⟨rfl, b4⟩; have B4 := Lib.hid (below_next B3.out b4); have z0 := keep_below y0 b4; have z1 := keep_below y1 b4; clear b4))
    | (go_at_call 13; go_loud (refine (CS.out _ B4.out).mono ?_; rintro e w5 ⟨rfl, b5⟩; have B5 := Lib.hid (below_next B4.out b5); clear b5)))
  clear y0 y1 z0 z1
  have k0 := keep_below X0.out B5.out
  have k1 := keep_below X1.out B5.out
  go_upto_region 4 with (go_at_call 5; go_loud (refine (CO.out _ B5.out).mono ?_; rintro e w6 ⟨v6, rfl, s6, b6⟩; have B6 := Lib.hid (below_next B5.out b6); clear b6 s6))
  clear k0 k1
  have k0 := keep_below X0.out B6.out
  have k1 := keep_below X1.out B6.out
  go_upto_region 5 with (go_at_call 6; go_loud (refine (CR.out _ B6.out).mono ?_; rintro e w7 ⟨v7, rfl, l7, r7, s7, b7⟩; have B7 := Lib.hid (below_next B6.out b7); have R7 := Lib.hid r7; have S7 := Lib.hid s7; clear b7 s7 r7))
  clear k0 k1
  have k0 := keep_below X0.out B7.out
  have k1 := keep_below X1.out B7.out
  go_upto_region 6 with (go_at_call 14; go_loud (refine (CP.out _ B7.out).mono ?_; rintro e w8 ⟨v8, rfl, s8, b8⟩; have B8 := Lib.hid (below_next B7.out b8); have S8 := Lib.hid s8; have T7 := Lib.hid (S7.out.below b8); clear b8 s8))
  clear k0 k1
  have k0 := keep_below X0.out B8.out
  have k1 := keep_below X1.out B8.out
  obtain ⟨A7, c7, rfl, h7, -⟩ := T7.out.form
  have h7 : SB w8 A7 l7.length (numC l7) := by have e : seI.s * l7.length = l7.length := Nat.one_mul _; rwa [e] at h7
  obtain ⟨A8, c8, rfl, -⟩ := S8.out.form
  obtain ⟨p, hp⟩ : ∃ p, (pivP cs (graphP cs ac)).length = p := ⟨_, rfl⟩
  have hp4 : (p : Int) ≤ 4096 := by have := HPL.out; omega
  simp only [hp]
  by_cases hl : M.length = n
  · rw [decide_eq_true hl]
    clear h7 hl
    go_wp2
    go_ret
    exact ⟨rfl, below_next HB.out.below B8.out⟩
  · rw [decide_eq_false hl]
    obtain ⟨q2, ⟨i0, hi0, hex⟩, qp⟩ := HDA.out hl l7 R7.out
    have hl7 := HLE.out l7 R7.out
    have CT8 := Lib.hid (CT.out _ B8.out A7 _ c7 l7 h7 rfl hl7 i0 hi0 hex)
    obtain ⟨k, hk⟩ : ∃ k, l7.length = k := ⟨_, rfl⟩
    rw [hk] at CT8
    simp only [hk]
    have k2 : (2 : Int) ≤ (k : Int) := by omega
    have p0 : (0 : Int) < (p : Int) := by omega
    have HPN := Lib.hid (show 0 < p by omega)
    clear h7 hl q2 hi0 hex qp hl7 hk hp
    go_wp2_with (go_at_call 15; go_loud (refine CT8.out.mono ?_; rintro e w9 ⟨rfl, b9⟩; have B9 := Lib.hid (below_next B8.out b9); clear b9))
    go_ret
    have hpn := HPN.out
    exact ⟨by first | rfl | simp [hpn], below_next HB.out.below B9.out⟩
end
/-- The given statement's call, for any history as it comes in. -/
theorem walk_SerialDangers (A : Option Addr) (n c : Nat) (B : Option Addr) (m d : Nat) (cs : List Int) (ac : List Ac) (w : World) (hT : TzAt w) (h : Hist w A n c B m d cs ac) :
    Calls Tryd.prog 4 #[.agg #[.slice A n c, .slice B m d]] w fun e w' => e = .returned (.bool true) ∧ Below w.heap.size w w' := by
  by_cases hR : Right cs ac
  · by_cases hS : SnapsP cs ac
    · obtain ⟨M, hM⟩ := FillP.exists (E := edgeH cs ac) (n := n) n [] .nil (by simp)
      exact wlDangersYes h hR hS hT hM
    · exact wlDangersSn h hR hS
  · exact wlDangersNo h hR
end Go.Proofs.YtnpeankmmojebaaDoor
