/- Layer 11: SerialOwn, walked. -/
import Derived.Test.YtnpeankmmojebaaGreatDoorJBS
import Derived.Deep.CutRange
set_option linter.unusedVariables false
namespace Go.Proofs.YtnpeankmmojebaaGreatDoor
set_option maxRecDepth 100000
open Go.RowKit Go.Shelf

attribute [local go_sem] Oper.semAt_some

section
variable {w : World} {A B : Option Addr} {n c m d : Nat} {cs : List Int} {ac : List Ac}
set_option maxHeartbeats 64000000 in
theorem wlOwnOk (h : Hist w A n c B m d cs ac) (hR : Right cs ac) (hT : TzAt w) (k : Nat) (hk : k ≤ 255) :
    Calls Tryz.prog 4 #[histV A n c B m d, .int .u8 (k : Nat)] w fun e w' => e = .returned (.bool true) ∧ Below w.heap.size w w' := by
  obtain ⟨M, hM⟩ := FillP.exists (E := edgeH cs ac) (n := n) n [] .nil (by simp)
  have hcl : cs.length = n := h.cl
  have hal : ac.length = m := h.al
  have hn : n ≤ 4096 := by rw [← hcl]; exact hR.lc
  have hm : m ≤ 4096 := by rw [← hal]; exact hR.la
  obtain ⟨W0, hB⟩ := h.boxN
  have HB := Lib.hid hB
  have HW := Lib.hid hB.eq
  have HH := Lib.hid hB.h
  have x0 := cell_of_row _ _ 0 _ _ _ hB.hq
  have x1 := cell_of_row _ _ 1 _ _ _ hB.hq
  simp at x0 x1
  have CL := Lib.hid wlLive
  have CR := Lib.hid (wlRightOk hB.h hR)
  have CI := Lib.hid (fun W (hW : Below W0.heap.size W0 W) => wcloneI (c := c) (hB.h.gw hW).cb (by omega))
  have CA := Lib.hid (fun W (hW : Below W0.heap.size W0 W) => wcloneA (c := d) (hB.h.gw hW).ab (by omega))
  have CG := Lib.hid (fun W (hW : Below W0.heap.size W0 W) => wsGraphOk (hB.h.gw hW) hR)
  have CO := Lib.hid (fun W (hW : Below W0.heap.size W0 W) => wsOrderSO (hB.h.gw hW) hR ((hT.below hB.below).below hW) hM)
  have CD := Lib.hid (fun W (hW : Below W0.heap.size W0 W) => wsRoundOk (hB.h.gw hW) hR)
  have CV := Lib.hid (fun W (hW : Below W0.heap.size W0 W) => wsPivOk (hB.h.gw hW) hR)
  have CN := Lib.hid (fun W (hW : Below W0.heap.size W0 W) => wrOrdersAll (most := k + 1) (hB.h.gw hW) hR hM (by omega))
  have CP := Lib.hid (fun W (hW : Below W0.heap.size W0 W) => wsOrdersLo (hB.h.gw hW) hR)
  have KG := Lib.hid (fun W (hW : Below W0.heap.size W0 W) => wrGraph (hB.h.gw hW) hn hm)
  have KO := Lib.hid (fun W (hW : Below W0.heap.size W0 W) => wrOrderAll (hB.h.gw hW) hR hM)
  have E1 := Lib.hid (fun W (A1 A2 : Option Addr) (c1 c2 : Nat) (h1 : SB W A1 n (numC cs)) (h2 : SB W A2 n (numC cs)) => weqI (w := W) (A := A1) (B := A2) (c1 := c1) (c2 := c2) (l := cs) (by rw [hcl]; exact h1) (by rw [hcl]; exact h2) (by omega))
  have E2 := Lib.hid (fun W (A1 A2 : Option Addr) (c1 c2 : Nat) (h1 : SB W A1 (4 * m) (cellsE acC ac)) (h2 : SB W A2 (4 * m) (cellsE acC ac)) => weqA (w := W) (A := A1) (B := A2) (c1 := c1) (c2 := c2) (l := ac) (by rw [hal]; exact h1) (by rw [hal]; exact h2) (by omega))
  rw [hcl] at E1
  rw [hal] at E2
  have HGL := Lib.hid (show (graphP cs ac).length ≤ 8192 by have := hR.edges_len; unfold edgesP at this; rwa [List.length_map] at this)
  have HPL := Lib.hid (show (pivP cs (graphP cs ac)).length ≤ 4096 by
    have h1 := List.length_filter_le (pvB (graphP cs ac)) (riseP cs)
    have h2 := rise_len cs cs.length
    rw [List.take_length] at h2
    have := hR.lc
    unfold pivP; omega)
  have HRL := Lib.hid (fun (l : List Int) (hl : RdIs cs ac l) => hl.len hR)
  have HFO := Lib.hid (firstO_leN (cs := cs) (M := M) hn)
  have HRI := Lib.hid hR
  have HMF := Lib.hid hM
  have HCL := Lib.hid hcl
  have HN4 := Lib.hid hn
  have HTZ := Lib.hid (hT.below hB.below)
  have HTL := Lib.hid hT.lt
  have HK := Lib.hid hk
  have i1 : IntKind.i64.wrap (k : Int) = (k : Int) := by rw [IntKind.wrap_i64]; omega
  have i2 : IntKind.i64.wrap ((k : Int) + 1) = ((k + 1 : Nat) : Int) := by rw [IntKind.wrap_i64]; omega
  have i3 : wrap64 ((k : Int) + 1) = ((k + 1 : Nat) : Int) := by unfold wrap64; omega
  have I1 := Lib.hid i1
  have I2 := Lib.hid i2
  have I3 := Lib.hid i3
  obtain ⟨F, hF⟩ : ∃ F, (allO cs ac n M).take (k + 1) = F := ⟨_, rfl⟩
  have HF := Lib.hid hF
  rw [hF] at CN
  obtain ⟨f, hf⟩ : ∃ f, F.length = f := ⟨_, rfl⟩
  have HFN := Lib.hid hf
  rw [hf] at CN
  obtain ⟨GR, hGR⟩ : ∃ g, graphP cs ac = g := ⟨_, rfl⟩
  rw [hGR] at CG CV KG HGL HPL
  obtain ⟨PV, hPV⟩ : ∃ g, pivP cs GR = g := ⟨_, rfl⟩
  rw [hPV] at CV HPL
  obtain ⟨r, hr⟩ : ∃ r, decide (M.length = n) = r := ⟨_, rfl⟩
  rw [hr] at CO KO
  obtain ⟨L, hL⟩ : ∃ L, firstO cs n M = L := ⟨_, rfl⟩
  rw [hL] at CO KO HFO
  unfold histV at CR CG CO CD CV CN CP KG KO ⊢
  clear h hB hR hT hM hcl hal hn hm hk hF hf hr hL hGR hPV i1 i2 i3
  refine (callsIn_wide (n := 10)).1 ?_
  refine callsIn_of_wp_marks Tryz.func4 rfl trivial ?_ rfl
  simp only [Tryz.ntmps4, List.size_toArray, List.length_cons, List.length_nil, Nat.reduceAdd, Nat.reduceSub, Array.replicate_succ, Array.replicate_zero, List.push_toArray, List.append_toArray, List.nil_append, List.cons_append]
  refine wpIn_wide.2 ?_
  go_upto_region 1 with fail
  rw [HW.out]
  go_upto_region 2 with (go_at_call 5; go_loud (refine CR.out.mono ?_; rintro e w1 ⟨rfl, b1⟩; have B1 := Lib.hid b1; have y0 := keep_below x0 b1; have y1 := keep_below x1 b1; clear b1))
  clear x0 x1
  go_upto_region 4 with (go_at_call 6; go_loud (refine (CL.out _).mono ?_; rintro e w2 ⟨rfl, b2⟩; have B2 := Lib.hid (below_next B1.out b2); have z0 := keep_below y0 b2; have z1 := keep_below y1 b2; clear b2))
  clear y0 y1
  have S0 : w2.drew.cell? ⟨w.heap.size, 0, none⟩ = some (.slice A n c) ∧ w2.drew.cell? ⟨w.heap.size, 1, none⟩ = some (.slice B m d) := ⟨z0, z1⟩
  have BD := Lib.hid (show Below W0.heap.size W0 w2.drew from B2.out.trans ((below_drew11 w2).mono B2.out.size))
  have SK := Lib.hid (fun W (hW : Below w2.heap.size w2 W) => (⟨keep_below z0 hW, keep_below z1 hW⟩ : W.cell? ⟨w.heap.size, 0, none⟩ = some (.slice A n c) ∧ W.cell? ⟨w.heap.size, 1, none⟩ = some (.slice B m d)))
  have DD := Lib.hid (show Below w2.heap.size w2 w2.drew from below_drew11 w2)
  go_cut [7, 8] from 48 to 53 (fun v7 v8 wx => ∃ A5 c5 A6 c6, v7 = .slice A5 n c5 ∧ v8 = .slice A6 m c6 ∧ SB wx A5 n (numC cs) ∧ SB wx A6 (4 * m) (cellsE acC ac) ∧ Below w2.heap.size w2 wx)
  case first =>
    go_region_held3 (fun W => W.cell? ⟨w.heap.size, 0, none⟩ = some (.slice A n c) ∧ W.cell? ⟨w.heap.size, 1, none⟩ = some (.slice B m d)) (first | exact S0 | exact SK.out _ D3.out | exact SK.out _ D4.out | exact SK.out _ DD.out) (first
      | (go_at_call 12; go_loud (refine (CI.out _ (by first | exact B4.out | exact BD.out)).mono ?_; rintro e w3 ⟨A5, c5, rfl, s5, b3⟩; have D3 := Lib.hid (show Below w2.heap.size w2 w3 by first | exact below_next D4.out b3 | exact below_next DD.out b3); have B3 := Lib.hid (show Below W0.heap.size W0 w3 from B2.out.trans (D3.out.mono B2.out.size)); have S5 := Lib.hid s5; have Q3 := Lib.hid b3; clear s5 b3))
      | (go_at_call 13; go_loud (refine (CA.out _ (by first | exact B3.out | exact BD.out)).mono ?_; rintro e w4 ⟨A6, c6, rfl, s6, b4⟩; have D4 := Lib.hid (show Below w2.heap.size w2 w4 by first | exact below_next D3.out b4 | exact below_next DD.out b4); have B4 := Lib.hid (show Below W0.heap.size W0 w4 from B2.out.trans (D4.out.mono B2.out.size)); have S6 := Lib.hid s6; have Q4 := Lib.hid b4; clear s6 b4)))
    all_goals go_wp2_with fail
    all_goals go_meet
    all_goals (first | exact ⟨_, _, _, _, rfl, rfl, S5.out.gw Q4.out, S6.out, D4.out⟩ | exact ⟨_, _, _, _, rfl, rfl, S5.out, S6.out.gw Q3.out, D3.out⟩)
  case rest =>
    rename World => wc
    obtain ⟨A5, c5, A6, c6, rfl, rfl, s5, s6, bc⟩ := hcut
    have S5 := Lib.hid s5
    have S6 := Lib.hid s6
    have B4 := Lib.hid (show Below W0.heap.size W0 wc from B2.out.trans (bc.mono B2.out.size))
    have BB := Lib.hid (fun W (hW : Below wc.heap.size wc W) => (B4.out.trans (hW.mono B4.out.size) : Below W0.heap.size W0 W))
    have y0 := keep_below z0 bc
    have y1 := keep_below z1 bc
    have Y0 := Lib.hid y0
    have Y1 := Lib.hid y1
    clear s5 s6 bc S0 z0 z1 SK DD BD CR
    go_upto_region 6 with (go_at_call 14; go_loud (refine (CG.out _ B4.out).mono ?_; rintro e w5 ⟨vg, rfl, sg, b5⟩; have SG := Lib.hid sg; have C5 := Lib.hid b5; have z0 := keep_below y0 b5; have z1 := keep_below y1 b5; clear sg b5))
    clear y0 y1
    go_upto_region 7 with (go_at_call 7; go_loud (refine (CO.out _ (BB.out _ C5.out)).mono ?_; rintro e w6 ⟨vo, rfl, so, b6⟩; have SQ := Lib.hid so; have D6 := Lib.hid b6; have C6 := Lib.hid (below_next C5.out b6); have y0 := keep_below z0 b6; have y1 := keep_below z1 b6; clear so b6))
    clear z0 z1
    go_upto_region 8 with (go_at_call 15; go_loud (refine (CD.out _ (BB.out _ C6.out)).mono ?_; rintro e w7 ⟨vr, rfl, rl, hrd, sr, b7⟩; have SR := Lib.hid sr; have HRD := Lib.hid (HRL.out rl hrd); have D7 := Lib.hid b7; have C7 := Lib.hid (below_next C6.out b7); have z0 := keep_below y0 b7; have z1 := keep_below y1 b7; clear hrd sr b7))
    clear y0 y1
    go_upto_region 9 with (go_at_call 16; go_loud (refine (CV.out _ (BB.out _ C7.out)).mono ?_; rintro e w8 ⟨vp, rfl, sp, b8⟩; have SP := Lib.hid sp; have D8 := Lib.hid b8; have C8 := Lib.hid (below_next C7.out b8); clear sp b8))
    clear z0 z1
    obtain ⟨Ag, cg, rfl, -⟩ := SG.out.form
    obtain ⟨Ao, co, rfl, -⟩ := SQ.out.form
    obtain ⟨Ar, cr, rfl, -⟩ := SR.out.form
    obtain ⟨Ap, cp, rfl, -⟩ := SP.out.form
    have G8 := Lib.hid (((SG.out.below D6.out).below D7.out).below D8.out)
    have Q8 := Lib.hid ((SQ.out.below D7.out).below D8.out)
    have R8 := Lib.hid (SR.out.below D8.out)
    obtain ⟨ng, hng⟩ : ∃ g, GR.length = g := ⟨_, rfl⟩
    have HNG := Lib.hid hng
    have G9 := Lib.hid (show SO seD wc.heap.size w8 (.slice Ag ng cg) ng (cellsE dpC GR) by rw [← hng]; exact G8.out)
    have LG := Lib.hid (show ∀ q, (Value.slice Ag ng cg).ownBlock = some q → wc.heap.size ≤ q ∧ q < w5.heap.size from fun q hq => SG.out.own.lt q (by rw [hng]; exact hq))
    have HG8 := Lib.hid (show ng ≤ 8192 by rw [← hng]; exact HGL.out)
    rw [hng]
    clear hng G8
    go_wp2
    go_loopw [77] (fun i wr => ∃ (j : Nat) (xs : List Value), i = .int .i64 (j : Nat) ∧ j ≤ ng ∧ SO seD wc.heap.size wr (.slice Ag ng cg) ng xs ∧ Out (fun q => (Value.slice Ag ng cg).ownBlock = some q) w8 wr) (fun i _ => ng - (intOf i).toNat)
    case atStart => exact ⟨0, _, rfl, Nat.zero_le _, G9.out, Out.refl _ _⟩
    case round =>
      rename World => w9
      clear G9
      obtain ⟨j, xs, rfl, hj, hO, hX⟩ := hrel
      by_cases hlt : j < ng
      · obtain ⟨g, rfl, hg⟩ := hO.addr11 (by omega)
        have hxl : xs.length = 3 * ng := hO.len
        have hca : ∀ i, i < 3 → ∃ u, w9.cell? ⟨g, j * 3 + i, none⟩ = some u := fun i hi => ⟨_, (hO.own.cellAt (j * 3 + i) (by show j * 3 + i < ng * 3; omega)).trans (List.getElem?_eq_getElem (by omega))⟩
        obtain ⟨d0, e0⟩ := hca 0 (by omega)
        obtain ⟨d1, e1⟩ := hca 1 (by omega)
        obtain ⟨d2, e2⟩ := hca 2 (by omega)
        rw [Nat.add_zero] at e0
        have f0 : w9.frozen? ⟨g, j * 3, none⟩ = false := hO.own.frozenAt _
        have f1 : w9.frozen? ⟨g, j * 3 + 1, none⟩ = false := hO.own.frozenAt _
        have f2 : w9.frozen? ⟨g, j * 3 + 2, none⟩ = false := hO.own.frozenAt _
        have i3 : (j : Int) < (ng : Int) := by omega
        have qb' : (j : Int) ≤ 65536 := by have := HG8.out; omega
        have HQL := Lib.hid hlt
        have HO2 := Lib.hid hO
        have HB2 := Lib.hid hX
        clear hO hX hg hlt hj hxl hca
        go_wp2
        go_roundw
        case rel => exact ⟨j + 1, _, by go_num, HQL.out, ((HO2.out.set1 (j * 3) _ rfl).set1 (j * 3 + 1) _ rfl).set1 (j * 3 + 2) _ rfl, ((HB2.out.setCell (p := ⟨g, j * 3, none⟩) (.inl rfl) _).setCell (p := ⟨g, j * 3 + 1, none⟩) (.inl rfl) _).setCell (p := ⟨g, j * 3 + 2, none⟩) (.inl rfl) _⟩
        case measure => have := HQL.out; simp [intOf]; omega
      · obtain rfl : j = ng := by omega
        have i3 : ¬ (j : Int) < (j : Int) := by omega
        have qb' : (j : Int) ≤ 65536 := by have := HG8.out; omega
        have C9 := Lib.hid (show Below wc.heap.size wc w9 from C8.out.trans (hX.below C8.out.size fun i hi e => by have := (LG.out i e).1; omega))
        have SZ := Lib.hid (show w5.heap.size ≤ w6.heap.size ∧ w6.heap.size ≤ w7.heap.size ∧ w7.heap.size ≤ w8.heap.size ∧ w8.heap.size ≤ w9.heap.size ∧ wc.heap.size ≤ w5.heap.size from ⟨D6.out.size, D7.out.size, D8.out.size, hX.size, C5.out.size⟩)
        have Q9 := Lib.hid (Q8.out.out11 hX (fun q hq e => by have := (LG.out q e).2; have := (Q8.out.own.lt q hq).1; omega))
        have R9 := Lib.hid (R8.out.out11 hX (fun q hq e => by have := (LG.out q e).2; have := (R8.out.own.lt q hq).1; have := SZ.out; omega))
        have P9 := Lib.hid (SP.out.out11 hX (fun q hq e => by have := (LG.out q e).2; have := (SP.out.own.lt q hq).1; have := SZ.out; omega))
        have LQ := Lib.hid (show ∀ q, (Value.slice Ao L.length co).ownBlock = some q → w5.heap.size ≤ q ∧ q < w6.heap.size from fun q hq => SQ.out.own.lt q hq)
        have LR := Lib.hid (show ∀ q, (Value.slice Ar rl.length cr).ownBlock = some q → w6.heap.size ≤ q ∧ q < w7.heap.size from fun q hq => SR.out.own.lt q hq)
        have LP := Lib.hid (show ∀ q, (Value.slice Ap PV.length cp).ownBlock = some q → w7.heap.size ≤ q ∧ q < w8.heap.size from fun q hq => SP.out.own.lt q hq)
        have K1 := Lib.hid (wscribble11 Q9.out (ints_numC11 _) (by have := HFO.out; omega) (by have := SZ.out; omega))
        clear hlt hj hX hO SG SQ SR SP Q8 R8
        go_upto_region 15 with (go_at_call 17; go_loud (refine K1.out.mono ?_; rintro e w10 ⟨⟨u1, rfl⟩, o10⟩; have C10 := Lib.hid (show Below wc.heap.size wc w10 from C9.out.trans (o10.below C9.out.size fun i hi e => by have := (LQ.out i e).1; have := SZ.out; omega)); have Z10 := Lib.hid o10.size; have R10 := Lib.hid (R9.out.out11 o10 (fun q hq e => by (have := (LQ.out q e).2; have := (LR.out q hq).1; omega))); have P10 := Lib.hid (P9.out.out11 o10 (fun q hq e => by (have := (LQ.out q e).2; have := (LP.out q hq).1; have := SZ.out; omega))); clear o10))
        have K2 := Lib.hid (wscribble11 R10.out (ints_numC11 _) (by have := HRD.out; omega) (by have := SZ.out; have := Z10.out; omega))
        clear K1
        go_upto_region 16 with (go_at_call 17; go_loud (refine K2.out.mono ?_; rintro e w11 ⟨⟨u2, rfl⟩, o11⟩; have C11 := Lib.hid (show Below wc.heap.size wc w11 from C10.out.trans (o11.below C10.out.size fun i hi e => by have := (LR.out i e).1; have := SZ.out; omega)); have Z11 := Lib.hid o11.size; have P11 := Lib.hid (P10.out.out11 o11 (fun q hq e => by (have := (LR.out q e).2; have := (LP.out q hq).1; omega))); clear o11))
        have K3 := Lib.hid (wscribble11 P11.out (ints_numC11 _) (by have := HPL.out; omega) (by have := SZ.out; have := Z10.out; have := Z11.out; omega))
        clear K2
        go_upto_region 17 with (go_at_call 17; go_loud (refine K3.out.mono ?_; rintro e w12 ⟨⟨u3, rfl⟩, o12⟩; have C12 := Lib.hid (show Below wc.heap.size wc w12 from C11.out.trans (o12.below C11.out.size fun i hi e => by have := (LP.out i e).1; have := SZ.out; omega)); clear o12))
        have y0 := keep_below Y0.out C12.out
        have y1 := keep_below Y1.out C12.out
        have m1 := I1.out
        have m2 := I2.out
        have m3 := I3.out
        clear K3 LQ LR LP LG Q9 R9 P9 R10 P10 P11 SZ Z10 Z11 D6 D7 D8 C5 C6 C7 C8 C9 C10 C11 HG8 HNG HRD
        go_upto_region 18 with (go_at_call 10; go_loud (refine (CN.out _ (BB.out _ C12.out)).mono ?_; rintro e w13 ⟨A13, c13, rfl, s13, b13⟩; have C13 := Lib.hid (below_next C12.out b13); have S13 := Lib.hid s13; have z0 := keep_below y0 b13; have z1 := keep_below y1 b13; clear b13 s13))
        clear y0 y1 m1 m2 m3
        obtain ⟨W14, hW14⟩ : ∃ X, w13.alloc (.cells #[.slice A13 f c13] 35) = X := ⟨_, rfl⟩
        have b14 : Below w13.heap.size w13 W14 := by rw [← hW14]; exact alloc_below11 w13 _
        have V14 := Lib.hid (show Vx W14 w13.heap.size (.slice A13 f c13) 35 by rw [← hW14]; exact Vx.new w13 _ _)
        have Z14 := Lib.hid (show W14.heap.size = w13.heap.size + 1 by rw [← hW14]; simp)
        have H14 := Lib.hid hW14
        have B14 := Lib.hid b14
        have y0 := keep_below z0 b14
        have y1 := keep_below z1 b14
        rw [hW14]
        clear hW14 b14 z0 z1
        go_upto_region 19 with fail
        obtain ⟨W15, hW15⟩ : ∃ X, W14.alloc (.cells #[.int .i64 0] 3) = X := ⟨_, rfl⟩
        have b15 : Below W14.heap.size W14 W15 := by rw [← hW15]; exact alloc_below11 W14 _
        have V15 := Lib.hid (show Vx W15 W14.heap.size (.int .i64 (([] : List (List Int × Value)).length : Nat)) 3 by rw [← hW15]; exact Vx.new W14 _ _)
        have Z15 := Lib.hid (show W15.heap.size = W14.heap.size + 1 by rw [← hW15]; simp)
        have B15 := Lib.hid b15
        have C15 := Lib.hid (below_next (below_next C13.out B14.out) b15)
        have z0 := keep_below y0 b15
        have z1 := keep_below y1 b15
        rw [hW15]
        clear hW15 b15 y0 y1
        go_wp2_with (go_at_call 11; go_loud (refine (CP.out _ (BB.out _ C15.out)).mono ?_; rintro e V ⟨bx, gb, rfl, vb, nb, b16⟩; have B16 := Lib.hid b16; have VB := Lib.hid vb; have NB := Lib.hid nb; clear b16 vb nb))
        clear z0 z1
        obtain ⟨p2, hp2⟩ : ∃ p, w.heap.size = p := ⟨_, rfl⟩
        obtain ⟨p4, hp4⟩ : ∃ p, p2 + 1 = p := ⟨_, rfl⟩
        obtain ⟨p19, hp19⟩ : ∃ p, w13.heap.size = p := ⟨_, rfl⟩
        obtain ⟨p20, hp20⟩ : ∃ p, W14.heap.size = p := ⟨_, rfl⟩
        have CV := Lib.hid (show Below wc.heap.size wc V from below_next C15.out B16.out)
        have V19 := Lib.hid (show Vx V p19 (.slice A13 f c13) 35 by rw [← hp19]; exact (V14.out.gw B15.out).gw B16.out)
        have V20 := Lib.hid (show Vx V p20 (.int .i64 (([] : List (List Int × Value)).length : Nat)) 3 by rw [← hp20]; exact V15.out.gw B16.out)
        have NQ := Lib.hid (show NetQ p20 V gb V.heap.size n (riseP cs) (edgeH cs ac) from NB.out.toQ (by have := Z15.out; omega))
        have PS := Lib.hid (show wc.heap.size ≤ w13.heap.size ∧ w13.heap.size = p19 ∧ p19 < p20 ∧ p20 < V.heap.size from ⟨C13.out.size, hp19, by have := Z14.out; omega, by have := Z15.out; have := B16.out.size; omega⟩)
        have LW := Lib.hid (show ∀ X, Out (fun i => i = p20 ∨ V.heap.size ≤ i) V X → Below w13.heap.size w13 X from fun X o => (((B14.out.trans (B15.out.mono B14.out.size)).trans (B16.out.mono (by have := B14.out.size; have := B15.out.size; omega))).trans (o.below (by have := PS.out; omega) fun i hi e => by have := PS.out; omega)))
        have HTV := Lib.hid (show TzAt V from HTZ.out.below (BB.out _ CV.out))
        have P24 := Lib.hid (show p2 = w.heap.size ∧ p4 = w.heap.size + 1 ∧ w.heap.size + 2 ≤ wc.heap.size from ⟨hp2.symm, by omega, by have := HB.out.size; have := B4.out.size; omega⟩)
        have R4 := Lib.hid (show Vx wc p4 (.bool false) 4 by rw [← hp4, ← hp2]; exact HB.out.rq.gw B4.out)
        rw [hp2] at Y0 Y1
        rw [hp2, hp4, hp19, hp20]
        clear hp2 hp4 hp19 hp20 HW CL CI CA CD CV HRL HPL HTZ B14 B15 B16 V14 V15 Z14 Z15 H14 NB C12 C15
        have eg : ∀ args w, (callFunc 33 args).run Tryz.prog w = .ok (.enter 33 args) w := enters_of Tryz.func33 (by kernel_rfl) rfl
        have hH := hands_allC 9 bx gb p20 V.heap.size V HRI.out HCL.out VB.out NQ.out (Nat.le_refl _) PS.out.2.2.2 HTV.out (by have := HTL.out; have := PS.out; have := P24.out; omega) HMF.out
        have HP20 := Lib.hid (show p20 < V.heap.size from PS.out.2.2.2)
        refine (wpIn_wide (n := 10)).1 ?_
        gi_wp2
        refine wp_handsC (gf := 33) (lb := #[.pointer (some ⟨bx, 0, none⟩)]) rfl (by decide) rfl trivial eg hH keepC_trans (fun x A l o o' hl ho hc => keepC_turn o' hl ho hc) (fun _ => rfl)
          (IR V p20 f) (fun cd pre X => cd = .exit 2 ∧ pre.length = f + 1 ∧ Vx X p20 (.int .i64 (f : Nat)) 3 ∧ Out (fun i => i = p20 ∨ V.heap.size ≤ i) V X)
          (fun s A B h hb => h.gw hb) (fun s A l o o' h hl ho hc => h.turn o' hl ho hc) (fun s A B h ho => h.out HP20.out ho)
          (fun cd s A B h hb => ⟨h.1, h.2.1, h.2.2.1.gw hb, h.2.2.2.then (Out.of_below hb _)⟩)
          (fun cd s A l o o' h hl ho hc => ⟨h.1, h.2.1, h.2.2.1.turn o' ho hc, h.2.2.2.grown (grownBy_putObj' A l o') (fun k e => by cases e; exact .inl (.inr hl))⟩)
          (fun s x A l o o' h _ ho hc => h.turn o' ho hc) ⟨V20.out, Out.refl _ _, Nat.zero_le _⟩ (fun x A B h => keepC_below h) (fun s x A B h hb => h.gw hb)
          (AxR p2 p4 p19 p20) (fun x a' A l o o' h _ _ _ => h)
          ?assign ?body ?done ?stop
        case assign =>
          rintro l ⟨z, y⟩ X K hX hK
          unfold encO
          dsimp only
          gi_wp2
          exact hK _ _ (AxR.mk' rfl) (Below.refl _ _)
        case body =>
          rintro l1 pre ⟨xs, xv⟩ _ X hX ⟨us, rfl⟩ ⟨h20, ho, hz⟩ ⟨hy, b, hb, hbs, hs⟩
          dsimp only at hy hs ⊢
          obtain ⟨A7, c7, rfl, h7, -⟩ := hs.form
          rw [show seI.s * n = n from Nat.one_mul n] at h7
          unfold tmR
          obtain ⟨z, hzz⟩ : ∃ z, pre.length = z := ⟨_, rfl⟩
          have HLN := Lib.hid (show (pre ++ [(xs, Value.slice A7 n c7)]).length = z + 1 by simp [hzz])
          rw [hzz] at h20 hy hz
          have X19 := Lib.hid (show Vx X p19 (.slice A13 f c13) 35 from (ho.block p19 V19.out.lt (fun e => by have := PS.out; omega)).trans V19.out)
          have X20 := Lib.hid h20
          have k19 := X19.out.c
          have k20 := X20.out.c
          have hff : f ≤ k + 1 := by rw [← HFN.out, ← HF.out]; simp; omega
          have KB := Lib.hid (show (f : Int) ≤ 1000 ∧ (z : Int) ≤ 1000 by have := HK.out; omega)
          have XO := Lib.hid ho
          by_cases hlt : z < f
          · have hFz : F[z]? = some xs := by rw [← HF.out, List.getElem?_take_of_lt (by omega)]; exact hy
            have hxn : xs.length = n := by have := h7.len; simpa [numC] using this
            obtain ⟨g, o, A8, c8, rfl, q8, s8⟩ := (S13.out.below (LW.out X ho)).atO hFz
            rw [hxn] at q8 s8
            have CE := Lib.hid (weqI (w := X) (c1 := c7) (c2 := c8) (l := xs) (by rw [hxn]; exact h7) (by rw [hxn]; exact s8) (by have := HN4.out; omega))
            rw [hxn] at CE
            have SX := Lib.hid hs
            have HBS := Lib.hid hbs
            have HLT := Lib.hid hlt
            have HBV := Lib.hid (And.intro hb (show V.heap.size ≤ X.heap.size from ho.size))
            have i3 : (z : Int) < (f : Int) := by omega
            have i4 : ¬ (f : Int) ≤ (z : Int) := by omega
            have l3 : IntKind.i64.wrap ((z : Int) + 1) = ((z + 1 : Nat) : Int) := by have := KB.out; rw [IntKind.wrap_i64]; omega
            have l4 : wrap64 ((z : Int) + 1) = ((z + 1 : Nat) : Int) := by have := KB.out; unfold wrap64; omega
            have L3 := Lib.hid l3
            have L4 := Lib.hid l4
            clear h20 ho hz hy hs hzz hX hFz hff hxn s8 h7 hb hbs hlt l3 l4
            gi_upto_region 24 with (refine ⟨trivial, ?_⟩; gi_at_call 9; go_loud (refine (callsIn_wide.2 CE.out).mono ?_; rintro e Y ⟨rfl, by1⟩; have BY := Lib.hid by1; clear by1))
            have KS := Lib.hid (wscribble11 (SX.out.below BY.out) (ints_numC11 _) (by have := HN4.out; omega) (Nat.le_trans HBS.out BY.out.size))
            clear q8 k19 k20
            gi_upto_region 25 with (refine ⟨trivial, ?_⟩; gi_at_call 17; go_loud (refine (callsIn_wide.2 KS.out).mono ?_; rintro e Y2 ⟨⟨u4, rfl⟩, oy2⟩; have OY := Lib.hid oy2; clear oy2))
            have OB := Lib.hid (show ∀ q, (Value.slice A7 n c7).ownBlock = some q → V.heap.size ≤ q ∧ q < X.heap.size ∧ ∀ ob, X.heap[q]? = some ob → ob.isCells = true from fun q hq => ⟨Nat.le_trans HBV.out.1 (SX.out.own.lt q hq).1, (SX.out.own.lt q hq).2, fun ob hob => by
              obtain ⟨-, cur, fr, hcur⟩ := SX.out.cellsE hq
              rw [hcur] at hob; cases hob; rfl⟩)
            have OXY := Lib.hid (show Out (fun q => q = p20 ∨ (Value.slice A7 n c7).ownBlock = some q) X Y2 from (Out.of_below BY.out _).then (Out.mono OY.out fun i _ e => .inr e))
            have y20 : Vx Y2 p20 (.int .i64 (z : Nat)) 3 := (OY.out.block p20 (X20.out.gw BY.out).lt (fun e => by have := (OB.out p20 e).1; have := HP20.out; omega)).trans (X20.out.gw BY.out)
            have Y20 := Lib.hid y20
            have c20 := y20.c
            have f20 := y20.f
            obtain ⟨Y3, hY3⟩ : ∃ Y3, Y2.setCell ⟨p20, 0, none⟩ (.int .i64 ((z : Int) + 1)) = Y3 := ⟨_, rfl⟩
            have O3 := Lib.hid (show Out (fun q => q = p20 ∨ (Value.slice A7 n c7).ownBlock = some q) X Y3 by rw [← hY3]; exact OXY.out.setCell (p := ⟨p20, 0, none⟩) (.inl (.inl rfl)) _)
            have Z20 := Lib.hid (show Vx Y3 p20 (.int .i64 ((z + 1 : Nat) : Int)) 3 by rw [← hY3, show ((z + 1 : Nat) : Int) = (z : Int) + 1 by omega]; exact Y20.out.set _)
            have FIN := Lib.hid (show KeepsOthers X Y3 ∧ keepC p20 V.heap.size (xs, Value.slice A7 n c7) X Y3 ∧ IR V p20 f (pre ++ [(xs, Value.slice A7 n c7)]) Y3 from
              ⟨others_out O3.out (fun q ob hq hob => hq.elim (fun e => by subst e; exact X20.out.isC hob) fun e => (OB.out q e).2.2 ob hob),
               Out.mono O3.out (fun i _ e => e.elim (fun e => .inl (.inl e)) .inr),
               ⟨by rw [HLN.out]; exact Z20.out, XO.out.trans O3.out (fun i _ e => e.elim .inl fun e => .inr (OB.out i e).1), by rw [HLN.out]; exact HLT.out⟩⟩)
            have l3 := L3.out
            have l4 := L4.out
            clear y20
            gi_wp2
            exact FIN.out
          · obtain rfl : z = f := by omega
            have i3 : ¬ (z : Int) < (z : Int) := by omega
            have i4 : (z : Int) ≤ (z : Int) := by omega
            have FIN := Lib.hid (show (pre ++ [(xs, Value.slice A7 n c7)]).length = z + 1 ∧ Vx X p20 (.int .i64 (z : Nat)) 3 ∧ Out (fun i => i = p20 ∨ V.heap.size ≤ i) V X from ⟨HLN.out, h20, ho⟩)
            clear h20 ho hz hy hs hzz hX hff h7 hb hbs hlt
            gi_wp2
            exact ⟨others_of_below (Below.refl _ _), rfl, FIN.out⟩
        rintro D xs X hD hxs ⟨h20, ho, hz⟩ hmk
        have hlen : xs.length = f := by
          have h1 : (xs.map (·.1)).length = (allO cs ac n M).length := by rw [hxs]
          rw [List.length_map] at h1
          have h2 : F.length = min (k + 1) (allO cs ac n M).length := by rw [← HF.out, List.length_take]
          have h3 := HFN.out
          omega
        rw [hlen] at h20
        clear hz hlen hxs
        rotate_left 1
        rintro D cd pre X hD - ⟨rfl, hpre, h20, ho⟩ hmk
        clear hpre
        rotate_left 1
        all_goals gi_wp2
        all_goals
          have LX := LW.out X ho
          have CX := Lib.hid (show Below wc.heap.size wc X from C13.out.trans (LX.mono C13.out.size))
          have X20 := Lib.hid h20
          have X19 := Lib.hid (show Vx X p19 (.slice A13 f c13) 35 from (ho.block p19 V19.out.lt (fun e => by have := PS.out; omega)).trans V19.out)
          have HDX := Lib.hid (show X.heap[D]? = some (.deferred (some [])) ∧ p4 < D ∧ w.heap.size ≤ D from ⟨hmk, by have := P24.out; have := PS.out; omega, by have := P24.out; have := PS.out; omega⟩)
          have y0 := keep_below Y0.out CX.out
          have y1 := keep_below Y1.out CX.out
          clear h20 ho hmk hD LX hH eg
          go_upto_region 27 with (go_at_call 14; go_loud (refine ((CG.out _ (BB.out _ CX.out))).mono ?_; rintro e u1 ⟨v1, rfl, s1, b1⟩; obtain ⟨A22, c22, rfl, t1, -⟩ := s1.form; have T1 := Lib.hid t1; have D1 := Lib.hid b1; have z0 := keep_below y0 b1; have z1 := keep_below y1 b1; clear s1 t1 b1))
          clear y0 y1
          go_upto_region 28 with (go_at_call 7; go_loud (refine ((CO.out _ (BB.out _ (CX.out.trans (D1.out.mono CX.out.size))))).mono ?_; rintro e u2 ⟨v2, rfl, s2, b2⟩; obtain ⟨A24, c24, rfl, t2, -⟩ := s2.form; have T2 := Lib.hid (show SB u2 A24 L.length (numC L) by have e : seI.s * L.length = L.length := Nat.one_mul _; rwa [e] at t2); have Q2 := Lib.hid b2; have D2 := Lib.hid (below_next D1.out b2); have y0 := keep_below z0 b2; have y1 := keep_below z1 b2; clear s2 t2 b2))
          clear z0 z1
          go_upto_region 29 with (go_at_call 8; go_loud (refine ((KO.out _ (BB.out _ (CX.out.trans (D2.out.mono CX.out.size))))).mono ?_; rintro e u3 ⟨A27, c27, rfl, t3, b3⟩; have T3 := Lib.hid t3; have Q3 := Lib.hid b3; have D3 := Lib.hid (below_next D2.out b3); have z0 := keep_below y0 b3; have z1 := keep_below y1 b3; clear t3 b3))
          clear y0 y1
          have CU := Lib.hid (fun W (hW : Below X.heap.size X W) => (CX.out.trans (hW.mono CX.out.size) : Below wc.heap.size wc W))
          have K1 := Lib.hid (E1.out u3 A A5 c c5 (HH.out.gw (BB.out _ (CU.out _ D3.out))).cb (S5.out.gw (CU.out _ D3.out)))
          have z19 := fun W (hW : Below X.heap.size X W) => (X19.out.gw hW).c
          have z20 := fun W (hW : Below X.heap.size X W) => (X20.out.gw hW).c
          have Z19 := Lib.hid z19
          have Z20 := Lib.hid z20
          clear z19 z20
          go_wp2_with (first
            | (go_at_call 9; go_loud (refine K5.out.mono ?_; rintro e u8 ⟨rfl, b8⟩; have D8 := Lib.hid (below_next D7.out b8); have r4 := R4.out.gw (CU.out _ D8.out); have k19 := Z19.out _ D8.out; have k20 := Z20.out _ D8.out; have k4 := r4.c; have f4 := r4.f; clear b8 r4))
            | (go_at_call 19; go_loud (refine K4.out.mono ?_; rintro e u7 ⟨rfl, b7⟩; have D7 := Lib.hid (below_next D6.out b7); have K5 := Lib.hid (weqI (c1 := c24) (c2 := c27) (((((T2.out.gw Q3.out).gw Q4.out).gw Q5.out).gw Q6.out).gw b7) ((((T3.out.gw Q4.out).gw Q5.out).gw Q6.out).gw b7) (by (have := HFO.out; omega))); clear b7))
            | (go_at_call 20; go_loud (refine ((KG.out _ (BB.out _ (CU.out _ D5.out)))).mono ?_; rintro e u6 ⟨v6, rfl, ⟨A9, c9, rfl, h9, -, -⟩, b6⟩; have D6 := Lib.hid (below_next D5.out b6); have Q6 := Lib.hid b6; have K4 := Lib.hid (weqD (c1 := c22) (c2 := c9) (((((T1.out.gw Q2.out).gw Q3.out).gw Q4.out).gw Q5.out).gw b6) h9 (by (have := HGL.out; omega))); clear b6 h9))
            | (go_at_call 18; go_loud (refine K2.out.mono ?_; rintro e u5 ⟨rfl, b5⟩; have D5 := Lib.hid (below_next D4.out b5); have Q5 := Lib.hid b5; have y0 := keep_below x0 b5; have y1 := keep_below x1 b5; clear b5))
            | (go_at_call 9; go_loud (refine K1.out.mono ?_; rintro e u4 ⟨rfl, b4⟩; have D4 := Lib.hid (below_next D3.out b4); have Q4 := Lib.hid b4; have x0 := keep_below z0 b4; have x1 := keep_below z1 b4; have K2 := Lib.hid (E2.out u4 B A6 d c6 (HH.out.gw (BB.out _ (CU.out _ (below_next D3.out b4)))).ab (S6.out.gw (CU.out _ (below_next D3.out b4)))); clear b4)))
          have END := Lib.hid (show Vx (u8.setCell ⟨p4, 0, none⟩ (.bool true)) p4 (.bool true) 4 ∧ Below w.heap.size w (u8.setCell ⟨p4, 0, none⟩ (.bool true)) ∧ (u8.setCell ⟨p4, 0, none⟩ (.bool true)).heap[D]? = some (.deferred (some [])) from
            ⟨(R4.out.gw (CU.out _ D8.out)).set _, (below_next HB.out.below (BB.out _ (CU.out _ D8.out))).setCell (p := ⟨p4, 0, none⟩) (by show w.heap.size ≤ p4; have := P24.out; omega) _, (Below.heap_setCell _ _ _ _ (by show D ≠ p4; have := HDX.out; omega)).trans ((D8.out.block D (Array.getElem?_eq_some_iff.1 HDX.out.1).1).trans HDX.out.1)⟩)
          refine leaves_marksO (fun Y => Below w.heap.size w Y ∧ Vx Y p4 (.bool true) 4) w.heap.size (fun Y D h hD ho => ⟨below_turn (o := .deferred (some [])) (b := 0) h.1 (Nat.le_refl _) hD _, h.2.turn _ ho rfl⟩) (fun Y h => ?_) [D] _ (by simp) (by intro E hE; simp at hE; subst hE; exact ⟨HDX.out.2.2, END.out.2.2⟩) ⟨END.out.2.1, END.out.1⟩
          have hc5 := h.2.c
          exact ⟨.bool true, by simp [results, Tryz.f4, go_sem, hc5], rfl, h.1⟩
theorem walk_SerialOwn (A : Option Addr) (n c : Nat) (B : Option Addr) (m d : Nat) (cs : List Int) (ac : List Ac) (mo : Int) (w : World) (hT : TzAt w) (h : Hist w A n c B m d cs ac) (hm : 0 ≤ mo ∧ mo ≤ 255) :
    Calls Tryz.prog 4 #[.agg #[.slice A n c, .slice B m d], .int .u8 mo] w fun e w' => e = .returned (.bool true) ∧ Below w.heap.size w w' := by
  obtain ⟨k, rfl⟩ := Int.eq_ofNat_of_zero_le hm.1
  by_cases hR : Right cs ac
  · exact wlOwnOk h hR hT k (by have := hm.2; omega)
  · exact wlOwnNo h hR _
end
end Go.Proofs.YtnpeankmmojebaaGreatDoor
