import Derived.Test.YtnpeankmmojebaaDoorJBO
import Derived.Test.YtnpeankmmojebaaDoorJBP
import Derived.Test.YtnpeankmmojebaaDoorJBK
/- Layer 11: SerialReplays, walked. -/
set_option linter.unusedVariables false
namespace Go.Proofs.YtnpeankmmojebaaDoor
set_option maxRecDepth 100000
open Go.RowKit

section
variable {w : World} {A B : Option Addr} {n c m d : Nat} {cs : List Int} {ac : List Ac}
set_option maxHeartbeats 32000000 in
theorem wlReplaysNo (h : Hist w A n c B m d cs ac) (hR : ¬ Right cs ac) :
    Calls Tryd.prog 3 #[histV A n c B m d] w fun e w' => e = .returned (.bool true) ∧ Below w.heap.size w w' := by
  obtain ⟨W0, hB⟩ := h.box
  have HB := Lib.hid hB
  have HW := Lib.hid hB.eq
  have x0 := hB.x0
  have x1 := hB.x1
  have CL := Lib.hid wlLive
  have CO := Lib.hid (wsOrderErr hB.h hR)
  have CR := Lib.hid (fun W (hW : Below W0.heap.size W0 W) => wsRoundErr (hB.h.gw hW) hR)
  have CC := Lib.hid (fun W (hW : Below W0.heap.size W0 W) => wrCheck (hB.h.gw hW))
  rw [errH_not hR] at CC
  unfold histV at CO CR CC ⊢
  clear h hB hR
  go_enter Tryd.func3, Tryd.ntmps3
  go_upto_region 1 with fail
  rw [HW.out]
  go_upto_region 2 with (go_at_call 5; go_loud (refine CO.out.mono ?_; rintro e w1 ⟨rfl, b1⟩; have B1 := Lib.hid b1; have y0 := keep_below x0 b1; have y1 := keep_below x1 b1; clear b1))
  clear x0 x1
  go_upto_region 3 with (go_at_call 6; go_loud (refine (CR.out _ B1.out).mono ?_; rintro e w2 ⟨rfl, b2⟩; have B2 := Lib.hid (below_next B1.out b2); have z0 := keep_below y0 b2; have z1 := keep_below y1 b2; clear b2))
  clear y0 y1
  go_upto_region 4 with fail
  go_wp2_with (first
    | (go_at_call 7; go_loud (refine (CL.out _).mono ?_; rintro e w3 ⟨rfl, b3⟩; have B3 := Lib.hid (below_next B2.out b3); have y0 := keep_below z0 b3; have y1 := keep_below z1 b3; clear b3))
    | (go_at_call 8; go_loud (refine (CC.out _ B3.out).mono ?_; rintro e w4 ⟨rfl, b4⟩; have B4 := Lib.hid (below_next B3.out b4); clear b4)))
  go_ret
  exact ⟨rfl, below_next HB.out.below B4.out⟩
set_option maxHeartbeats 32000000 in
theorem wlReplaysRd (h : Hist w A n c B m d cs ac) (hR : Right cs ac) (hT : TzAt w) {M : List Nat} (hM : FillP (edgeH cs ac) n [] M) (hMl : M.length ≠ n) :
    Calls Tryd.prog 3 #[histV A n c B m d] w fun e w' => e = .returned (.bool true) ∧ Below w.heap.size w w' := by
  obtain ⟨W0, hB⟩ := h.box
  have HB := Lib.hid hB
  have HW := Lib.hid hB.eq
  have x0 := hB.x0
  have x1 := hB.x1
  have hcl : cs.length = n := h.cl
  have CL := Lib.hid wlLive
  have CO := Lib.hid (wsOrderOk hB.h hR (hT.below hB.below) hM)
  have CR := Lib.hid (fun W (hW : Below W0.heap.size W0 W) => wsRoundOk (hB.h.gw hW) hR)
  have CG := Lib.hid (fun W (hW : Below W0.heap.size W0 W) => wsGraphOk (hB.h.gw hW) hR)
  have HRN := Lib.hid (fun (l : List Int) (hr : RdIs cs ac l) => round_next hR (by rw [hcl]; exact hM.lay .nil) (by rw [hcl]; exact hM.over) (by rw [hcl]; exact hMl) hr)
  have HLE := Lib.hid (fun (l : List Int) (hl : RdIs cs ac l) => hl.len hR)
  have HGL := Lib.hid (show (graphP cs ac).length ≤ 8192 by
    have h1 := graph_len cs ac ac []
    have h2 := hR.la
    simp only [List.length_nil] at h1
    unfold graphP; omega)
  rw [if_neg hMl, if_neg hMl, decide_eq_false hMl] at CO
  unfold histV at CO CR CG ⊢
  clear h hB hR hT hM hMl hcl
  go_enter Tryd.func3, Tryd.ntmps3
  go_upto_region 1 with fail
  rw [HW.out]
  go_upto_region 2 with (go_at_call 5; go_loud (refine CO.out.mono ?_; rintro e w1 ⟨v1, rfl, s1, b1⟩; have B1 := Lib.hid b1; have S1 := Lib.hid s1; have y0 := keep_below x0 b1; have y1 := keep_below x1 b1; clear b1 s1))
  clear x0 x1
  go_upto_region 3 with (go_at_call 6; go_loud (refine (CR.out _ B1.out).mono ?_; rintro e w2 ⟨v2, rfl, l2, r2, s2, b2⟩; have B2 := Lib.hid (below_next B1.out b2); have R2 := Lib.hid r2; have S2 := Lib.hid s2; have z0 := keep_below y0 b2; have z1 := keep_below y1 b2; clear b2 r2 s2))
  clear y0 y1
  go_upto_region 6 with (go_at_call 7; go_loud (refine (CL.out _).mono ?_; rintro e w3 ⟨rfl, b3⟩; have B3 := Lib.hid (below_next B2.out b3); have S3 := Lib.hid (S2.out.below b3); have y0 := keep_below z0 b3; have y1 := keep_below z1 b3; clear b3))
  clear z0 z1
  go_upto_region 7 with (go_at_call 9; go_loud (refine (CG.out _ B3.out).mono ?_; rintro e w4 ⟨v4, rfl, s4, b4⟩; have B4 := Lib.hid (below_next B3.out b4); have S4 := Lib.hid s4; have T4 := Lib.hid (S3.out.below b4); clear b4 s4))
  clear y0 y1
  obtain ⟨A1, c1, rfl, -⟩ := S1.out.form
  obtain ⟨A2, c2, rfl, h2, -⟩ := T4.out.form
  have h2 : SB w4 A2 l2.length (numC l2) := by have e : seI.s * l2.length = l2.length := Nat.one_mul _; rwa [e] at h2
  obtain ⟨A4, c4, rfl, h4, -⟩ := S4.out.form
  obtain ⟨k, hk⟩ : ∃ k, l2.length = k := ⟨_, rfl⟩
  obtain ⟨q, hq⟩ : ∃ q, (graphP cs ac).length = q := ⟨_, rfl⟩
  have hrn := HRN.out l2 R2.out
  rw [hk] at hrn h2
  have HRN2 := Lib.hid hrn
  have k2 : (2 : Int) ≤ (k : Int) := by have := hrn.1; omega
  have k4 : (k : Int) ≤ 4096 := by have := HLE.out l2 R2.out; omega
  have H2 := Lib.hid h2
  have H4 := Lib.hid h4
  have HK := Lib.hid hk
  have HQ := Lib.hid hq
  simp only [hk]
  simp only [hq]
  clear hrn h2 h4 hk hq
  go_upto_region 8 with fail
  go_loopw [57] (fun i wr => ∃ j : Nat, i = .int .i64 (j : Nat) ∧ j ≤ k ∧ Below w4.heap.size w4 wr) (fun i _ => k - (intOf i).toNat)
  case atStart => exact ⟨0, rfl, Nat.zero_le _, Below.refl _ _⟩
  case round =>
    rename World => wr
    obtain ⟨j, rfl, hj, hb⟩ := hrel
    by_cases hlt : j < k
    · obtain ⟨x, y, hx, hy, hld⟩ := HRN2.out.2 j hlt
      obtain ⟨p, hp⟩ : ∃ p, (j + 1) % k = p := ⟨_, rfl⟩
      rw [hp] at hy
      obtain ⟨g, o, rfl, u0⟩ := (H2.out.gw hb).num hx
      obtain ⟨g', o', e', u1⟩ := (H2.out.gw hb).num hy
      cases e'
      have pk : p < k := by rw [← hp]; exact Nat.mod_lt _ (by omega)
      have ep : ((j : Int) + 1) % (k : Int) = (p : Int) := by rw [← hp, Int.natCast_emod, Int.natCast_add]; rfl
      have p1 : (p : Int) < (k : Int) := by omega
      have i1 : (j : Int) < (k : Int) := by omega
      have i0 : ¬ (k : Int) = 0 := by omega
      have CLD := Lib.hid (wlLeads (gc := c4) (H4.out.gw hb) HQ.out (by have := HGL.out; rw [HQ.out] at this; exact this) x y)
      rw [hld] at CLD
      have HLT := Lib.hid hlt
      have HBL := Lib.hid hb
      clear hx hy hld hp pk hj hb hlt
      go_wp2_with (go_at_call 10; go_loud (refine CLD.out.mono ?_; rintro e w6 ⟨rfl, b6⟩; have B6 := Lib.hid (below_next HBL.out b6); clear b6))
      go_roundw
      case rel => exact ⟨j + 1, by go_num, HLT.out, B6.out⟩
      case measure => have := HLT.out; simp [intOf]; omega
    · obtain rfl : j = k := by omega
      have i1 : ¬ (j : Int) < (j : Int) := by omega
      have HBL := Lib.hid hb
      clear hj hlt hb
      go_wp2
      go_ret
      exact ⟨rfl, below_next (below_next HB.out.below B4.out) HBL.out⟩
set_option maxHeartbeats 64000000 in
theorem wlReplaysOr (h : Hist w A n c B m d cs ac) (hR : Right cs ac) (hT : TzAt w) {M : List Nat} (hM : FillP (edgeH cs ac) n [] M) (hMl : M.length = n) :
    Calls Tryd.prog 3 #[histV A n c B m d] w fun e w' => e = .returned (.bool true) ∧ Below w.heap.size w w' := by
  obtain ⟨W0, hB⟩ := h.box
  have HB := Lib.hid hB
  have HW := Lib.hid hB.eq
  have x0 := hB.x0
  have x1 := hB.x1
  have hcl : cs.length = n := h.cl
  have hn : n ≤ 4096 := by rw [← hcl]; exact hR.lc
  have hm : m ≤ 4096 := by rw [← h.al]; exact hR.la
  obtain ⟨hfw, hord⟩ := fwd_of hR (by rw [hcl]; exact hM.lay .nil) (by rw [hcl]; exact hMl)
  have CL := Lib.hid wlLive
  have CO := Lib.hid (wsOrderOk hB.h hR (hT.below hB.below) hM)
  have CR := Lib.hid (fun W (hW : Below W0.heap.size W0 W) => wsRoundOk (hB.h.gw hW) hR)
  have HNR := Lib.hid (fun (l : List Int) (hr : RdIs cs ac l) => no_round (M := M) (by rw [hcl]; exact hM.lay .nil) (by rw [hcl]; exact hMl) hr)
  have HON := Lib.hid (show (numsP cs M).length = n by rw [← hMl]; simp [numsP])
  have HRP := Lib.hid (fun (a : Ac) (ha : a ∈ ac) (hw : a.wr = false) (hne : a.ver ≠ a.txn) => hfw.replay hR ha hw hne)
  have HOB := Lib.hid (ordB_yes hord)
  have CD := Lib.hid (fun W (hW : Below W0.heap.size W0 W) (oA : Option Addr) (oc : Nat) (hs : SB W oA n (numC (numsP cs M))) => wrOrdered (oc := oc) (hB.h.gw hW) hn hs HON.out)
  have CT := Lib.hid (fun W (hW : Below W0.heap.size W0 W) (oA : Option Addr) (oc : Nat) (hs : SB W oA n (numC (numsP cs M))) (t : Int) (it : ByteArray) => wlLast (oc := oc) (hB.h.gw hW) hm hs HON.out hn t it)
  rw [if_pos hMl, if_pos hMl, decide_eq_true hMl, hMl] at CO
  rw [HOB.out] at CD
  have HM := Lib.hid hm
  have HN := Lib.hid hn
  unfold histV at CO CR CD CT ⊢
  clear h hB hR hT hM hMl hcl hfw hord hn hm
  go_enter Tryd.func3, Tryd.ntmps3
  go_upto_region 1 with fail
  rw [HW.out]
  go_upto_region 2 with (go_at_call 5; go_loud (refine CO.out.mono ?_; rintro e w1 ⟨v1, rfl, s1, b1⟩; have B1 := Lib.hid b1; have S1 := Lib.hid (show SO seI W0.heap.size w1 v1 n (numC (numsP cs M)) from s1); have y0 := keep_below x0 b1; have y1 := keep_below x1 b1; clear b1 s1))
  clear x0 x1
  go_upto_region 3 with (go_at_call 6; go_loud (refine (CR.out _ B1.out).mono ?_; rintro e w2 ⟨v2, rfl, l2, r2, s2, b2⟩; obtain rfl := HNR.out l2 r2; have B2 := Lib.hid (below_next B1.out b2); have S2 := Lib.hid s2; have T2 := Lib.hid (S1.out.below b2); have z0 := keep_below y0 b2; have z1 := keep_below y1 b2; clear b2 r2 s2))
  clear y0 y1
  obtain ⟨A2, c2, rfl, -⟩ := S2.out.form
  obtain ⟨A1, c1, rfl, h1, -⟩ := T2.out.form
  have h1 : SB w2 A1 n (numC (numsP cs M)) := by have e : seI.s * n = n := Nat.one_mul _; rwa [e] at h1
  have H1 := Lib.hid h1
  clear h1
  go_upto_region 15 with (go_at_call 7; go_loud (refine (CL.out _).mono ?_; rintro e w3 ⟨rfl, b3⟩; have B3 := Lib.hid (below_next B2.out b3); have H3 := Lib.hid (H1.out.gw b3); have CD3 := Lib.hid (CD.out _ B3.out A1 c1 H3.out); have y0 := keep_below z0 b3; have y1 := keep_below z1 b3; clear b3))
  clear z0 z1
  go_upto_region 18 with (go_at_call 11; go_loud (refine CD3.out.mono ?_; rintro e w4 ⟨rfl, b4⟩; have B4 := Lib.hid (below_next B3.out b4); have H4 := Lib.hid (H3.out.gw b4); have z0 := keep_below y0 b4; have z1 := keep_below y1 b4; clear b4))
  clear y0 y1
  have Z0 := Lib.hid z0
  have Z1 := Lib.hid z1
  clear z0 z1
  go_loopw [96] (fun i wr => ∃ j : Nat, i = .int .i64 (j : Nat) ∧ j ≤ m ∧ Below w4.heap.size w4 wr) (fun i _ => m - (intOf i).toNat)
  case atStart => exact ⟨0, rfl, Nat.zero_le _, Below.refl _ _⟩
  case round =>
    rename World => wr
    obtain ⟨j, rfl, hj, hb⟩ := hrel
    by_cases hlt : j < m
    · obtain ⟨a, ha⟩ : ∃ a, ac[j]? = some a := ⟨_, List.getElem?_eq_getElem (by rw [HB.out.h.al]; exact hlt)⟩
      obtain ⟨g', o', rfl, c0, c1', c2, c3⟩ := (HB.out.h.gw (below_next B4.out hb)).act ha
      obtain ⟨X, hX⟩ := Ac.box wr a
      have j1 : (j : Int) < (m : Int) := by omega
      have j2 : (j : Int) ≤ 4096 := by have := HM.out; omega
      have HLT := Lib.hid hlt
      have HBX := Lib.hid (hb.trans (hX.below.mono hb.size))
      have HX := Lib.hid hX.eq
      have k0 := cell_regrown (keep_below Z0.out HBX.out)
      have k1 := cell_regrown (keep_below Z1.out HBX.out)
      have HBG := Lib.hid (show ∀ d os, Below w4.heap.size w4 (Go.Sort.grow (redrawn X d) os) from fun d os => HBX.out.trans ((below_regrown X d os).mono HBX.out.size))
      have HA := Lib.hid (List.mem_of_getElem? ha)
      have cL := fun d os => Calls.regrown_of (CT.out _ (below_next B4.out (HBG.out d os)) A1 c1 (H4.out.gw (HBG.out d os)) a.txn a.item)
      have HRA := Lib.hid (HRP.out a HA.out)
      have d0 := cell_regrown hX.d0
      have d1 := cell_regrown hX.d1
      have d2 := cell_regrown hX.d2
      have d3 := cell_regrown hX.d3
      obtain ⟨at_, aw, ai, av⟩ := a
      dsimp only at *
      clear ha hb hX hj hlt
      cases aw
      · by_cases hv : av = at_
        · subst hv
          clear HRA
          go_upto_region 20 with fail
          rw [HX.out]
          clear c0 c1' c2 c3
          refine wp_region_quietH (by kernel_rfl) (by kernel_rfl) ?_
          iterate 22 (
            refine wpQuiet_stepH (fun K hK => ?_)
            go_simp
            first
              | (refine hK _ ?_; clear hK K)
              | (apply Exists.intro
                 refine ⟨fun _ => ?_, hK _ ?_⟩
                 · go_at_call 12; exact cL _ _
                 clear hK K))
          refine wpQuiet_nilH ?_
          intro _ hw'
          obtain ⟨⟨dq, osq⟩, hw''⟩ := hw'
          subst hw''
          obtain ⟨Y, hY⟩ : ∃ Y, Go.Sort.grow (redrawn X dq) osq = Y := ⟨_, rfl⟩
          have BY := Lib.hid (show Below X.heap.size X Y by rw [← hY]; exact below_regrown X dq osq)
          simp only [hY]
          clear hY k0 k1 d0 d1 d2 d3 cL HBG
          go_wp2
          go_roundw
          case rel => exact ⟨j + 1, by go_num, HLT.out, below_next HBX.out BY.out⟩
          case measure => have := HLT.out; simp [intOf]; omega
        · have e1 : (av == at_) = false := by simpa using hv
          rw [HRA.out rfl hv] at cL
          clear HRA
          go_upto_region 20 with fail
          rw [HX.out]
          clear c0 c1' c2 c3
          refine wp_region_quietH (by kernel_rfl) (by kernel_rfl) ?_
          iterate 22 (
            refine wpQuiet_stepH (fun K hK => ?_)
            go_simp
            first
              | (refine hK _ ?_; clear hK K)
              | (apply Exists.intro
                 refine ⟨fun _ => ?_, hK _ ?_⟩
                 · go_at_call 12; exact cL _ _
                 clear hK K))
          refine wpQuiet_nilH ?_
          intro _ hw'
          obtain ⟨⟨dq, osq⟩, hw''⟩ := hw'
          subst hw''
          obtain ⟨Y, hY⟩ : ∃ Y, Go.Sort.grow (redrawn X dq) osq = Y := ⟨_, rfl⟩
          have BY := Lib.hid (show Below X.heap.size X Y by rw [← hY]; exact below_regrown X dq osq)
          simp only [hY]
          clear hY k0 k1 d0 d1 d2 d3 cL HBG
          go_wp2
          go_roundw
          case rel => exact ⟨j + 1, by go_num, HLT.out, below_next HBX.out BY.out⟩
          case measure => have := HLT.out; simp [intOf]; omega
      · clear HRA
        go_upto_region 20 with fail
        rw [HX.out]
        clear c0 c1' c2 c3
        refine wp_region_quietH (by kernel_rfl) (by kernel_rfl) ?_
        iterate 22 (
          refine wpQuiet_stepH (fun K hK => ?_)
          go_simp
          first
            | (refine hK _ ?_; clear hK K)
            | (apply Exists.intro
               refine ⟨fun _ => ?_, hK _ ?_⟩
               · go_at_call 12; exact cL _ _
               clear hK K))
        refine wpQuiet_nilH ?_
        intro _ hw'
        obtain ⟨⟨dq, osq⟩, hw''⟩ := hw'
        subst hw''
        obtain ⟨Y, hY⟩ : ∃ Y, Go.Sort.grow (redrawn X dq) osq = Y := ⟨_, rfl⟩
        have BY := Lib.hid (show Below X.heap.size X Y by rw [← hY]; exact below_regrown X dq osq)
        simp only [hY]
        clear hY k0 k1 d0 d1 d2 d3 cL HBG
        go_wp2
        go_roundw
        case rel => exact ⟨j + 1, by go_num, HLT.out, below_next HBX.out BY.out⟩
        case measure => have := HLT.out; simp [intOf]; omega
    · obtain rfl : j = m := by omega
      have i1 : ¬ (j : Int) < (j : Int) := by omega
      have HBL := Lib.hid hb
      clear hj hlt hb
      go_wp2
      go_ret
      exact ⟨rfl, below_next (below_next HB.out.below B4.out) HBL.out⟩
end
/-- The given statement's call, for any history as it comes in. -/
theorem walk_SerialReplays (A : Option Addr) (n c : Nat) (B : Option Addr) (m d : Nat) (cs : List Int) (ac : List Ac) (w : World) (hT : TzAt w) (h : Hist w A n c B m d cs ac) :
    Calls Tryd.prog 3 #[.agg #[.slice A n c, .slice B m d]] w fun e w' => e = .returned (.bool true) ∧ Below w.heap.size w w' := by
  by_cases hR : Right cs ac
  · obtain ⟨M, hM⟩ := FillP.exists (E := edgeH cs ac) (n := n) n [] .nil (by simp)
    by_cases hMl : M.length = n
    · exact wlReplaysOr h hR hT hM hMl
    · exact wlReplaysRd h hR hT hM hMl
  · exact wlReplaysNo h hR
end Go.Proofs.YtnpeankmmojebaaDoor
