/- The walk of LockOne: what is held is held by one, up to its holder's release. -/
import Derived.Test.YtghnafknbgmagaaLkOne
namespace Go.Proofs.Ytghnafknbgmagaa
set_option maxRecDepth 100000
set_option maxRecDepth 100000
open Go.RowKit Go.Maps Go.ChangeMaps Go.MapKept

set_option maxHeartbeats 64000000 in
theorem walk_LockOne (a0 : Int) (A9 : Option Addr) (n1 cc1 : Nat) (z1 : List OpK) (w : World) (_ha0 : -9223372036854775808 ≤ a0 ∧ a0 ≤ 9223372036854775807) (h1 : RK w A9 n1 z1) (hn1 : n1 ≤ cc1) (hc1 : cc1 ≤ maxLen) :
    Calls Try.prog 4 #[.int .i64 a0, .slice A9 n1 cc1] w fun e w' => e = .returned (.bool true) ∧ Below w.heap.size w w' := by
  have CB := Lib.hid (fun W => wbegun8 W)
  by_cases hin : a0 < 1 ∨ 4096 < a0
  · have CN := Lib.hid (fun W => wkNew_no (w := W) hin)
    rcases hin with hin | hin
    · clear h1
      go_enter Try.func4, Try.ntmps4
      go_wp2_with (first
        | (go_at_call 10; go_loud (refine (CB.out _).mono ?_; rintro e w3 ⟨rfl, b3⟩; have B3 := Lib.hid b3; clear b3))
        | (go_at_call 8; go_loud (refine (CN.out _).mono ?_; rintro e w1 ⟨rfl, hw⟩; replace hw := hw.symm; subst hw)))
      go_ret
      exact ⟨rfl, B3.out⟩
    · have hin2 : ¬ a0 < 1 := by omega
      clear h1
      go_enter Try.func4, Try.ntmps4
      go_wp2_with (first
        | (go_at_call 10; go_loud (refine (CB.out _).mono ?_; rintro e w3 ⟨rfl, b3⟩; have B3 := Lib.hid b3; clear b3))
        | (go_at_call 8; go_loud (refine (CN.out _).mono ?_; rintro e w1 ⟨rfl, hw⟩; replace hw := hw.symm; subst hw)))
      go_ret
      exact ⟨rfl, B3.out⟩
  · have CN := Lib.hid (fun W => wkNew (w := W) hin)
    have H1 := Lib.hid h1
    have HC := Lib.hid (show n1 ≤ 9223372036854775807 by simp only [maxLen] at hc1; omega)
    clear h1 hin
    go_enter Try.func4, Try.ntmps4
    go_upto_region 4 with (first
      | (go_at_call 10; go_loud (refine (CB.out _).mono ?_; rintro e w0 ⟨rfl, b0⟩; have B0 := Lib.hid b0; clear b0))
      | (go_at_call 8; go_loud (refine (CN.out _).mono ?_; rintro e w1 ⟨rfl, m1, b1⟩; have M1 := Lib.hid m1; have B1 := Lib.hid b1; clear m1 b1)))
    obtain ⟨r, hr⟩ : ∃ r, w0.heap.size = r := ⟨_, rfl⟩
    obtain ⟨m, hm⟩ : ∃ m, r + 1 = m := ⟨_, rfl⟩
    rw [hr, hm] at M1
    have O3 := Lib.hid (show One8 w w1 m r a0 [] [] [] none 0 0 none 0 0 from ⟨M1.out, below_next B0.out B1.out, by have := B0.out.size; omega, by have := B0.out.size; omega, LR.nil _ _ _, LR.nil _ _ _, rfl, rfl, by simp⟩)
    rw [hr, hm]
    clear hm hr M1 B0 B1 CN CB
    go_upto_region 9 with fail
    go_loopw [7, 8, 36] (fun hv bv i wr => ∃ (j : Nat) (hs : List Hd) (B1 : Option Addr) (q c1 : Nat) (B2 : Option Addr) (c2 : Nat), hv = .slice B1 q c1 ∧ bv = .slice B2 q c2 ∧ i = .int .i64 (j : Nat) ∧ j ≤ n1 ∧ One8 w wr m r a0 hs hs hs B1 q c1 B2 q c2) (fun _ _ i _ => n1 - (intOf i).toNat)
    case atStart => exact ⟨0, [], none, 0, 0, none, 0, rfl, rfl, rfl, Nat.zero_le _, O3.out⟩
    case round =>
      rename World => wr
      clear O3
      obtain ⟨j, hs, B1, q, c1, B2, c2, rfl, rfl, rfl, hj, hO⟩ := hrel
      by_cases hlt : j < n1
      · obtain ⟨x, hx⟩ : ∃ x, z1[j]? = some x := ⟨_, List.getElem?_eq_getElem (by have := H1.out.len; omega)⟩
        have HO := Lib.hid (H1.out.is x (List.mem_of_getElem? hx))
        obtain ⟨ab, ao, rfl, q0, q1, q2, q3, q4, q5, q6⟩ := (H1.out.below hO.bel).at_ hx
        have SZ := Lib.hid (show Sz x.at_ from HO.out.sz)
        have WF := Lib.hid (wf_of HO.out.rt)
        obtain ⟨kind, tx, snap, last, ⟨tb, ky⟩, hi⟩ := x
        dsimp only at q0 q1 q2 q3 q4 q5 q6 SZ WF
        have i1 : (j : Int) < (n1 : Int) := by omega
        have jb : (j : Int) < 9223372036854775807 := by have := HC.out; omega
        have HLT := Lib.hid hlt
        obtain ⟨Y, hY⟩ : ∃ Y, wr.alloc (.cells #[.int .i64 kind, .int .i64 tx, .int .i64 snap, .int .i64 last, .string tb, .string ky, .string hi] 36) = Y := ⟨_, rfl⟩
        have HY := Lib.hid hY
        have rY := heap_alloc_new wr (.cells #[.int .i64 kind, .int .i64 tx, .int .i64 snap, .int .i64 last, .string tb, .string ky, .string hi] 36)
        rw [hY] at rY
        have gY : Below wr.heap.size wr Y := by rw [← hY]; exact (Below.refl _ _).alloc (Nat.le_refl _) _
        have y0 : Y.cell? ⟨wr.heap.size, 0, none⟩ = some (.int .i64 kind) := cell_of_row _ _ 0 _ _ _ rY
        have OY := Lib.hid (hO.below gY)
        have YB := Lib.hid rY
        have QN := Lib.hid (show hs.length = q ∧ (q : Int) ≤ 4096 by have := hO.mg.len; have := hO.mg.m2; have := hO.e1; exact ⟨this, by omega⟩)
        clear hx hO rY gY hlt hY
        go_upto_region 11 with fail
        rw [HY.out]
        clear q0 q1 q2 q3 q4 q5 q6
        obtain ⟨bo, hbo⟩ : ∃ bo, wr.heap.size = bo := ⟨_, rfl⟩
        rw [hbo] at YB y0 ⊢
        clear hbo HY
        by_cases hk4 : kind = 4
        · subst hk4
          have HLN := Lib.hid (show (hs.length : Int) ≤ 4096 by have := QN.out; omega)
          go_upto_region 14 with fail
          go_loopw [7, 8, 11, 12] (fun hv bv nv iv wz => ∃ (p i qq : Nat) (A1 : Option Addr) (d1 : Nat) (A2 : Option Addr) (d2 : Nat) (nn : Int), p ≤ hs.length ∧ cutN hs tx p = i ∧ i + (hs.length - p) = qq ∧ hv = .slice A1 qq d1 ∧ bv = .slice A2 qq d2 ∧ nv = .int .i64 nn ∧ nn = (p : Int) - (i : Int) ∧ iv = .int .i64 (i : Nat) ∧ One8 w wz m r a0 hs (cutP hs tx p) (cutP hs tx p) A1 qq d1 A2 qq d2 ∧ wz.heap[bo]? = some (.cells #[.int .i64 4, .int .i64 tx, .int .i64 snap, .int .i64 last, .string tb, .string ky, .string hi] 36 (0, 0))) (fun hv _ _ iv _ => sliceLen hv - (intOf iv).toNat)
          case atStart => exact ⟨0, 0, q, B1, c1, B2, c2, 0, Nat.zero_le _, cutN_zero _ _, by have := QN.out.1; omega, rfl, rfl, rfl, by simp, rfl, by rw [cut_zero]; exact OY.out, YB.out⟩
          case round =>
            rename World => wz
            clear y0
            obtain ⟨p, i, qq, A1, d1, A2, d2, nn, hp, hi', hqq, rfl, rfl, rfl, hnn, rfl, hO, hzb⟩ := hrel
            have OZ := Lib.hid hO
            have ZB := Lib.hid hzb
            have z0 : wz.cell? ⟨bo, 0, none⟩ = some (.int .i64 4) := cell_of_row _ _ 0 _ _ _ hzb
            have z1 : wz.cell? ⟨bo, 1, none⟩ = some (.int .i64 tx) := cell_of_row _ _ 1 _ _ _ hzb
            have HCN := Lib.hid (cutN_le hs tx p)
            by_cases hpl : p < hs.length
            · obtain ⟨x, hx⟩ : ∃ x, hs[p]? = some x := ⟨_, List.getElem?_eq_getElem hpl⟩
              have hxc := cut_at tx hx
              rw [hi'] at hxc
              obtain ⟨g2, hA2, e2⟩ := hO.holder hxc
              subst hA2
              have HX := Lib.hid hx
              obtain ⟨xl, t⟩ := x
              dsimp only at e2
              have i5 : (i : Int) < (qq : Int) := by omega
              have HI := Lib.hid hi'
              have HQQ := Lib.hid hqq
              have HP := Lib.hid hpl
              have HNN := Lib.hid hnn
              have k5 : (i : Int) ≤ 4096 := by have := HLN.out; have := HCN.out; omega
              have n5 : 0 ≤ nn := by have := HCN.out; omega
              have n6 : nn ≤ 4096 := by have := HLN.out; omega
              have HQL := Lib.hid (show qq ≤ 4096 ∧ i < qq by have := HLN.out; have := HCN.out; omega)
              clear hO hzb hx hxc hp hpl hi' hqq hnn
              go_upto_region 15 with fail
              go_quiet (fail)
              obtain ⟨V, hV⟩ : ∃ V, wz.drewN nq = V := ⟨_, rfl⟩
              have bV : Below wz.heap.size wz V := by rw [← hV]; exact below_drewN8 _ _
              have OV := Lib.hid (OZ.out.below bV)
              have VB := Lib.hid ((bV.block bo (Array.getElem?_eq_some_iff.1 ZB.out).1).trans ZB.out)
              rw [hV]
              clear hV bV z0 z1 e2
              obtain ⟨tq, htq⟩ : ∃ tq, (t != tx) = tq := ⟨_, rfl⟩
              rw [htq]
              cases tq
              · have HCD := Lib.hid (cut_drop (tx := tx) HX.out (by simpa using htq))
                clear htq
                obtain ⟨k1, hk1⟩ : ∃ k1, i + 1 = k1 := ⟨_, rfl⟩
                have HK1 := Lib.hid hk1
                have hw1 : IntKind.i64.wrap ((i : Int) + 1) = (k1 : Int) := by rw [← hk1]; simp only [IntKind.wrap, IntKind.bits, IntKind.signed]; simp; omega
                obtain ⟨qn, hqn⟩ : ∃ qn, i + (qq - k1) = qn := ⟨_, rfl⟩
                have HQN := Lib.hid hqn
                have OW := Lib.hid (OV.out.below (Below.refl V.heap.size V).drew)
                have BW := Lib.hid (show V.drew.heap[bo]? = _ from VB.out)
                obtain ⟨R1, hR1, sR1⟩ := OW.out.r1.rest (k := k1) (by have := HQL.out.2; omega)
                have HR1 := Lib.hid hR1
                have SR1 := Lib.hid sR1
                have HCAP := Lib.hid OW.out.r1.cap
                have HBV := Lib.hid (show w.heap.size ≤ V.drew.heap.size from OW.out.bel.size)
                clear hk1 hqn hR1 sR1
                go_upto_region 18 with fail
                refine wp_region_still_tail 8 (by kernel_rfl) (by kernel_rfl) ?_
                simp only [List.take_succ_cons, List.take_zero, List.drop_succ_cons, List.drop_zero]
                change wpStill _ _ V.drew _ _ _
                iterate 3 still_step
                refine still_cut seL_ok rfl (.tmp 58) (.tmp 59) (.tmp 60) rfl rfl i rfl rfl (by have := HQL.out.2; have := HCAP.out.1; omega) ?_
                iterate 3 still_step
                refine still_rest seL_ok rfl (.tmp 62) (.tmp 64) rfl rfl k1 (k1 : Int) rfl rfl (by have := HQL.out.2; have := HK1.out; omega) R1 HR1.out ?_
                refine wpStill_nil ?_
                change wpList _ _ _ _ _ V.drew
                refine lr_append seL_ok rfl (.tmp 61) (.tmp 65) rfl rfl (OW.out.r1.cut HQL.out.2 (by have := HQL.out.1; omega)) R1 (qq - k1) (d1 - k1) _ rfl SR1.out (by have := HQL.out; have := HK1.out; omega) HBV.out ?_
                intro A5 d5 w6 l6 b6 f6
                rw [HQN.out] at l6 ⊢
                rw [cells_cut, ← HK1.out, ← HI.out, ← HCD.out.1] at l6
                have O6 := Lib.hid (OW.out.app1 (L1' := cutP hs tx (p + 1)) l6 (by rw [cut_len, HCD.out.2, HI.out]; have := HQN.out; have := HQQ.out; have := HK1.out; have := HP.out; omega) b6 f6)
                have B6 := Lib.hid (OW.out.aside1 BW.out (by decide) f6)
                have HBW := Lib.hid (show w.heap.size ≤ w6.heap.size from O6.out.bel.size)
                have O7 := Lib.hid (O6.out.below (Below.refl w6.heap.size w6).drew)
                have B7 := Lib.hid (show w6.drew.heap[bo]? = _ from B6.out)
                obtain ⟨R2, hR2, sR2⟩ := O7.out.r2.rest (k := k1) (by have := HQL.out.2; have := HK1.out; omega)
                have HR2 := Lib.hid hR2
                have SR2 := Lib.hid sR2
                have HCAP2 := Lib.hid O7.out.r2.cap
                clear l6 b6 f6 hR2 sR2
                go_upto_region 19 with fail
                refine wp_region_still_tail 8 (by kernel_rfl) (by kernel_rfl) ?_
                simp only [List.take_succ_cons, List.take_zero, List.drop_succ_cons, List.drop_zero]
                change wpStill _ _ w6.drew _ _ _
                iterate 3 still_step
                refine still_cut seN_ok rfl (.tmp 67) (.tmp 68) (.tmp 69) rfl rfl i rfl rfl (by have := HQL.out.2; have := HCAP2.out.1; omega) ?_
                iterate 3 still_step
                refine still_rest seN_ok rfl (.tmp 71) (.tmp 73) rfl rfl k1 (k1 : Int) rfl rfl (by have := HQL.out.2; have := HK1.out; omega) R2 HR2.out ?_
                refine wpStill_nil ?_
                change wpList _ _ _ _ _ w6.drew
                refine lr_append seN_ok rfl (.tmp 70) (.tmp 74) rfl rfl (O7.out.r2.cut HQL.out.2 (by have := HQL.out.1; omega)) R2 (qq - k1) (d2 - k1) _ rfl SR2.out (by have := HQL.out; have := HK1.out; omega) HBW.out ?_
                intro A6 d6 w7 l7 b7 f7
                rw [HQN.out] at l7 ⊢
                rw [nums_cut, ← HK1.out, ← HI.out, ← HCD.out.1] at l7
                have O8 := Lib.hid (O7.out.app2 (L2' := cutP hs tx (p + 1)) l7 (by rw [cut_len, HCD.out.2, HI.out]; have := HQN.out; have := HQQ.out; have := HK1.out; have := HP.out; omega) b7 f7)
                have B8 := Lib.hid (O7.out.aside2 B7.out (by decide) f7)
                clear l7 b7 f7
                go_wp2
                go_roundw
                case rel => exact ⟨p + 1, i, qn, A5, d5, A6, d6, nn + 1, HP.out, HCD.out.2.trans HI.out, by have := HQN.out; have := HQQ.out; have := HK1.out; have := HP.out; omega, rfl, rfl, by go_num, by have := HNN.out; omega, rfl, O8.out, B8.out⟩
                case measure => have h1 := HQN.out; have h2 := HK1.out; have h3 := HQL.out.2; simp [intOf, sliceLen]; omega
              · have HCS := Lib.hid (cut_skip (tx := tx) HX.out (by simpa using htq))
                clear htq
                go_wp2
                go_roundw
                case rel => exact ⟨p + 1, i + 1, qq, A1, d1, _, d2, nn, HP.out, by rw [HCS.out.2, HI.out], by have := HQQ.out; have := HP.out; omega, rfl, rfl, rfl, by have := HNN.out; omega, by go_num, by rw [HCS.out.1]; exact OV.out, VB.out⟩
                case measure => have := HQL.out.2; simp [intOf, sliceLen]; omega
            · obtain rfl : p = hs.length := by omega
              rw [cutN_all] at hi'
              have hqi : i = qq := by omega
              subst hqi
              have i5 : ¬ (i : Int) < (i : Int) := by omega
              rw [cut_all] at hO
              have CR := wkRelease hO.mg tx
              have HPR := Lib.hid (pos_release hO.pos tx)
              rw [show (hs.length : Int) - ((releaseP hs tx).length : Int) = nn by rw [hi']; exact hnn.symm] at CR
              have CR := Lib.hid CR
              obtain ⟨hs2, hhs2⟩ : ∃ l, releaseP hs tx = l := ⟨_, rfl⟩
              rw [hhs2] at CR HPR hO
              have OR := Lib.hid hO
              clear hO hzb hp hpl hi' hqq hnn hhs2 OZ
              go_upto_region 36 with (go_at_call 13; go_loud (refine CR.out.mono ?_; rintro e w8 ⟨rfl, m8, o8⟩; have OQ := Lib.hid (OR.out.out m8 HPR.out o8); have x0 : w8.cell? ⟨bo, 0, none⟩ = some (.int .i64 4) := cell_of_row _ _ 0 _ _ _ (OR.out.asideR ZB.out o8); clear m8 o8))
              clear z0 z1 x0
              clear i5
              have CL := Lib.hid (wkLen OQ.out.mg)
              have QE := Lib.hid OQ.out.e1
              have QM := Lib.hid (show (i : Int) ≤ a0 ∧ (i : Int) ≤ 4096 by have := OQ.out.mg.len; have := OQ.out.mg.m2; have := OQ.out.e1; omega)
              rw [QE.out] at CL
              have qm1 : decide (a0 < (i : Int)) = false := by have := QM.out; simp; omega
              go_upto_region 39 with (go_at_call 15; go_loud (refine CL.out.mono ?_; rintro e wL ⟨rfl, hw⟩; replace hw := hw.symm; subst hw))
              go_loopw [167] (fun iv wz => ∃ kk : Nat, iv = .int .i64 (kk : Nat) ∧ kk ≤ i ∧ Below w8.heap.size w8 wz) (fun iv _ => i - (intOf iv).toNat)
              case atStart => exact ⟨0, rfl, Nat.zero_le _, Below.refl _ _⟩
              case round =>
                rename World => wz
                obtain ⟨kk, rfl, hk, hB⟩ := hrel
                by_cases hkq : kk < i
                · obtain ⟨x, hx⟩ : ∃ x, hs2[kk]? = some x := ⟨_, List.getElem?_eq_getElem (by have := QE.out; omega)⟩
                  have OZ := OQ.out.below hB
                  obtain ⟨g1, hA1, d0, d1⟩ := OZ.lock hx
                  obtain ⟨g2, hA2, d2⟩ := OZ.holder hx
                  subst hA1
                  subst hA2
                  have HH := Lib.hid (holder_is OZ.mg.map.once hx)
                  have CH := Lib.hid (wkHolder OZ.mg (l := x.1) (by obtain ⟨D, -, hv⟩ := OZ.mg.map; exact hv.sz x (List.mem_of_getElem? hx)))
                  rw [HH.out] at CH
                  simp only [Option.getD_some, Option.isSome_some] at CH
                  unfold lkV at CH
                  have HK := Lib.hid hkq
                  have HBZ := Lib.hid hB
                  have i5 : (kk : Int) < (i : Int) := by omega
                  have k5 : (kk : Int) ≤ 4096 := by have := QM.out; omega
                  clear hx OZ hB hkq hk
                  go_wp2_with (go_at_call 16; go_loud (refine CH.out.mono ?_; rintro e wH ⟨rfl, bH⟩; have BH := Lib.hid (below_next HBZ.out bH); have d2' := keep_below d2 bH; clear bH))
                  go_roundw
                  case rel => exact ⟨kk + 1, by go_num, HK.out, BH.out⟩
                  case measure => have := HK.out; simp [intOf]; omega
                · obtain rfl : kk = i := by omega
                  have i5 : ¬ (kk : Int) < (kk : Int) := by omega
                  have OZ := Lib.hid (OQ.out.below hB)
                  clear hB hkq hk CL
                  go_wp2
                  go_roundw
                  case rel => exact ⟨j + 1, hs2, A1, kk, d1, A2, d2, rfl, rfl, by go_num, HLT.out, OZ.out⟩
                  case measure => have := HLT.out; simp [intOf]; omega
        · have hk4' : (kind == 4) = false := by simpa using hk4
          clear hk4
          by_cases hk0 : kind = 0
          · subst hk0
            clear hk4'
            have yb := YB.out
            have y1 : Y.cell? ⟨bo, 1, none⟩ = some (.int .i64 tx) := cell_of_row _ _ 1 _ _ _ yb
            have y2 : Y.cell? ⟨bo, 2, none⟩ = some (.int .i64 snap) := cell_of_row _ _ 2 _ _ _ yb
            have y3 : Y.cell? ⟨bo, 3, none⟩ = some (.int .i64 last) := cell_of_row _ _ 3 _ _ _ yb
            have y4 : Y.cell? ⟨bo, 4, none⟩ = some (.string tb) := cell_of_row _ _ 4 _ _ _ yb
            have y5 : Y.cell? ⟨bo, 5, none⟩ = some (.string ky) := cell_of_row _ _ 5 _ _ _ yb
            have CT := Lib.hid (wkTake OY.out.mg SZ.out tx snap last WF.out)
            unfold lkV at CT
            dsimp only at CT
            have TP := take_parts (most := a0) OY.out.mg.map.once OY.out.pos tx snap last (tb, ky)
            have PT := pos_take (most := a0) OY.out.pos tx snap last (tb, ky)
            obtain ⟨en, hs', hen⟩ : ∃ en hs', takeP a0 hs tx snap last (tb, ky) = (en, hs') := ⟨_, _, rfl⟩
            rw [hen] at CT TP PT
            have TP := Lib.hid TP
            have PT := Lib.hid PT
            clear yb hen
            go_upto_region 26 with (go_at_call 12; go_loud (refine CT.out.mono ?_; rintro e w5 ⟨rfl, m5, o5⟩; have O5 := Lib.hid (OY.out.out m5 PT.out o5); have B5 := Lib.hid (OY.out.asideR YB.out o5); clear m5 o5))
            clear y0 y1 y2 y3 y4 y5 CT
            have OC := Lib.hid OY.out.mg.map.once
            go_loopw [14, 97] (fun hv kv wy => ∃ k : Nat, kv = .int .i64 (k : Nat) ∧ k ≤ q ∧ hv = .int .i64 ((holderP (hs.take k) (tb, ky)).getD 0) ∧ Below w5.heap.size w5 wy) (fun _ kv _ => q - (intOf kv).toNat)
            case atStart => exact ⟨0, rfl, Nat.zero_le _, by simp [holderP], Below.refl _ _⟩
            case round =>
              rename World => wy
              obtain ⟨k, rfl, hk, rfl, hB⟩ := hrel
              obtain ⟨hd, hhd⟩ : ∃ hd, (holderP (hs.take k) (tb, ky)).getD 0 = hd := ⟨_, rfl⟩
              rw [hhd]
              have zb := (hB.block bo (Array.getElem?_eq_some_iff.1 B5.out).1).trans B5.out
              have OZ := O5.out.below hB
              have HBZ := Lib.hid hB
              by_cases hkq : k < q
              · obtain ⟨x, hx⟩ : ∃ x, hs[k]? = some x := ⟨_, List.getElem?_eq_getElem (by have := QN.out.1; omega)⟩
                obtain ⟨g1, hA1, d0, d1⟩ := OZ.lock hx
                obtain ⟨g2, hA2, d2⟩ := OZ.holder hx
                subst hA1
                subst hA2
                have z4 : wy.cell? ⟨bo, 4, none⟩ = some (.string tb) := cell_of_row _ _ 4 _ _ _ zb
                have z5 : wy.cell? ⟨bo, 5, none⟩ = some (.string ky) := cell_of_row _ _ 5 _ _ _ zb
                have hst := holder_step OC.out hx (tb, ky)
                rw [hhd] at hst
                have heq := fun W => eqLk W x.1.1 x.1.2 tb ky
                obtain ⟨qe, hqe⟩ : ∃ qe, lkEq (x.1.1, x.1.2) (tb, ky) = qe := ⟨_, rfl⟩
                simp only [hqe] at heq
                have hqx : qe = decide (x.1 = (tb, ky)) := by rw [← hqe]; exact lkEq_is _ _
                have HK := Lib.hid hkq
                have i5 : (k : Int) < (q : Int) := by omega
                have k5 : (k : Int) ≤ 4096 := by have := QN.out.2; omega
                cases qe
                · have HS := Lib.hid (show (holderP (hs.take (k + 1)) (tb, ky)).getD 0 = hd by rw [hst, if_neg (by simpa using hqx)])
                  clear hx zb OZ hB hkq hk hst hqe hqx hhd
                  go_upto_region 28 with fail
                  go_quiet (fail)
                  go_wp2
                  go_roundw
                  case rel => exact ⟨k + 1, by go_num, HK.out, by rw [HS.out], below_next HBZ.out (below_drewN8 _ _)⟩
                  case measure => have := HK.out; simp [intOf]; omega
                · have HS := Lib.hid (show (holderP (hs.take (k + 1)) (tb, ky)).getD 0 = x.2 by rw [hst, if_pos (by simpa using hqx)])
                  clear hx zb OZ hB hkq hk hst hqe hqx hhd
                  go_upto_region 28 with fail
                  go_quiet (fail)
                  go_wp2
                  go_roundw
                  case rel => exact ⟨k + 1, by go_num, HK.out, by rw [HS.out], below_next HBZ.out (below_drewN8 _ _)⟩
                  case measure => have := HK.out; simp [intOf]; omega
              · obtain rfl : k = q := by omega
                rw [List.take_of_length_le (by have := QN.out.1; omega)] at hhd
                have i5 : ¬ (k : Int) < (k : Int) := by omega
                have z1 : wy.cell? ⟨bo, 1, none⟩ = some (.int .i64 tx) := cell_of_row _ _ 1 _ _ _ zb
                have z4 : wy.cell? ⟨bo, 4, none⟩ = some (.string tb) := cell_of_row _ _ 4 _ _ _ zb
                have z5 : wy.cell? ⟨bo, 5, none⟩ = some (.string ky) := cell_of_row _ _ 5 _ _ _ zb
                rcases TP.out with ⟨e, he, n0, n80⟩ | ⟨he, hh, ht⟩ | ⟨x, he, hh, hx1, hx2⟩ | ⟨he, hh, ht⟩
                · simp only [Prod.mk.injEq] at he
                  obtain ⟨he1, he2⟩ := he
                  rw [← he1] at n0 n80
                  rw [he2] at OZ
                  have OQ := Lib.hid OZ
                  have n0' : (en == 0) = false := by simpa using n0
                  have n80' : (en == 80) = false := by simpa using n80
                  clear OZ hB hkq hk hhd zb n0 n80 he1 he2 TP PT
                  go_upto_region 36 with fail
                  clear z1 z4 z5 i5
                  have CL := Lib.hid (wkLen OQ.out.mg)
                  have QE := Lib.hid OQ.out.e1
                  have QM := Lib.hid (show (k : Int) ≤ a0 ∧ (k : Int) ≤ 4096 by have := OQ.out.mg.len; have := OQ.out.mg.m2; have := OQ.out.e1; omega)
                  rw [QE.out] at CL
                  have qm1 : decide (a0 < (k : Int)) = false := by have := QM.out; simp; omega
                  go_upto_region 39 with (go_at_call 15; go_loud (refine CL.out.mono ?_; rintro e wL ⟨rfl, hw⟩; replace hw := hw.symm; subst hw))
                  go_loopw [167] (fun iv wz => ∃ kk : Nat, iv = .int .i64 (kk : Nat) ∧ kk ≤ k ∧ Below wy.heap.size wy wz) (fun iv _ => k - (intOf iv).toNat)
                  case atStart => exact ⟨0, rfl, Nat.zero_le _, Below.refl _ _⟩
                  case round =>
                    rename World => wz
                    obtain ⟨kk, rfl, hk, hB⟩ := hrel
                    by_cases hkq : kk < k
                    · obtain ⟨x, hx⟩ : ∃ x, hs[kk]? = some x := ⟨_, List.getElem?_eq_getElem (by have := QE.out; omega)⟩
                      have OZ := OQ.out.below hB
                      obtain ⟨g1, hA1, d0, d1⟩ := OZ.lock hx
                      obtain ⟨g2, hA2, d2⟩ := OZ.holder hx
                      subst hA1
                      subst hA2
                      have HH := Lib.hid (holder_is OZ.mg.map.once hx)
                      have CH := Lib.hid (wkHolder OZ.mg (l := x.1) (by obtain ⟨D, -, hv⟩ := OZ.mg.map; exact hv.sz x (List.mem_of_getElem? hx)))
                      rw [HH.out] at CH
                      simp only [Option.getD_some, Option.isSome_some] at CH
                      unfold lkV at CH
                      have HK := Lib.hid hkq
                      have HBZ := Lib.hid hB
                      have i5 : (kk : Int) < (k : Int) := by omega
                      have k5 : (kk : Int) ≤ 4096 := by have := QM.out; omega
                      clear hx OZ hB hkq hk
                      go_wp2_with (go_at_call 16; go_loud (refine CH.out.mono ?_; rintro e wH ⟨rfl, bH⟩; have BH := Lib.hid (below_next HBZ.out bH); have d2' := keep_below d2 bH; clear bH))
                      go_roundw
                      case rel => exact ⟨kk + 1, by go_num, HK.out, BH.out⟩
                      case measure => have := HK.out; simp [intOf]; omega
                    · obtain rfl : kk = k := by omega
                      have i5 : ¬ (kk : Int) < (kk : Int) := by omega
                      have OZ := Lib.hid (OQ.out.below hB)
                      clear hB hkq hk CL
                      go_wp2
                      go_roundw
                      case rel => exact ⟨j + 1, hs, B1, kk, c1, B2, c2, rfl, rfl, by go_num, HLT.out, OZ.out⟩
                      case measure => have := HLT.out; simp [intOf]; omega
                · simp only [Prod.mk.injEq] at he
                  obtain ⟨he1, he2⟩ := he
                  subst he1
                  rw [he2] at OZ
                  have OQ := Lib.hid OZ
                  have hdt : hd = tx := by rw [← hhd, hh]
                  subst hdt
                  have n0' : (hd == 0) = false := by simp; omega
                  have n0'' : ¬ hd = 0 := by omega
                  clear OZ hB hkq hk hhd zb he2 TP PT hh ht
                  go_upto_region 36 with fail
                  clear z1 z4 z5 i5
                  have CL := Lib.hid (wkLen OQ.out.mg)
                  have QE := Lib.hid OQ.out.e1
                  have QM := Lib.hid (show (k : Int) ≤ a0 ∧ (k : Int) ≤ 4096 by have := OQ.out.mg.len; have := OQ.out.mg.m2; have := OQ.out.e1; omega)
                  rw [QE.out] at CL
                  have qm1 : decide (a0 < (k : Int)) = false := by have := QM.out; simp; omega
                  go_upto_region 39 with (go_at_call 15; go_loud (refine CL.out.mono ?_; rintro e wL ⟨rfl, hw⟩; replace hw := hw.symm; subst hw))
                  go_loopw [167] (fun iv wz => ∃ kk : Nat, iv = .int .i64 (kk : Nat) ∧ kk ≤ k ∧ Below wy.heap.size wy wz) (fun iv _ => k - (intOf iv).toNat)
                  case atStart => exact ⟨0, rfl, Nat.zero_le _, Below.refl _ _⟩
                  case round =>
                    rename World => wz
                    obtain ⟨kk, rfl, hk, hB⟩ := hrel
                    by_cases hkq : kk < k
                    · obtain ⟨x, hx⟩ : ∃ x, hs[kk]? = some x := ⟨_, List.getElem?_eq_getElem (by have := QE.out; omega)⟩
                      have OZ := OQ.out.below hB
                      obtain ⟨g1, hA1, d0, d1⟩ := OZ.lock hx
                      obtain ⟨g2, hA2, d2⟩ := OZ.holder hx
                      subst hA1
                      subst hA2
                      have HH := Lib.hid (holder_is OZ.mg.map.once hx)
                      have CH := Lib.hid (wkHolder OZ.mg (l := x.1) (by obtain ⟨D, -, hv⟩ := OZ.mg.map; exact hv.sz x (List.mem_of_getElem? hx)))
                      rw [HH.out] at CH
                      simp only [Option.getD_some, Option.isSome_some] at CH
                      unfold lkV at CH
                      have HK := Lib.hid hkq
                      have HBZ := Lib.hid hB
                      have i5 : (kk : Int) < (k : Int) := by omega
                      have k5 : (kk : Int) ≤ 4096 := by have := QM.out; omega
                      clear hx OZ hB hkq hk
                      go_wp2_with (go_at_call 16; go_loud (refine CH.out.mono ?_; rintro e wH ⟨rfl, bH⟩; have BH := Lib.hid (below_next HBZ.out bH); have d2' := keep_below d2 bH; clear bH))
                      go_roundw
                      case rel => exact ⟨kk + 1, by go_num, HK.out, BH.out⟩
                      case measure => have := HK.out; simp [intOf]; omega
                    · obtain rfl : kk = k := by omega
                      have i5 : ¬ (kk : Int) < (kk : Int) := by omega
                      have OZ := Lib.hid (OQ.out.below hB)
                      clear hB hkq hk CL
                      go_wp2
                      go_roundw
                      case rel => exact ⟨j + 1, hs, B1, kk, c1, B2, c2, rfl, rfl, by go_num, HLT.out, OZ.out⟩
                      case measure => have := HLT.out; simp [intOf]; omega
                · simp only [Prod.mk.injEq] at he
                  obtain ⟨he1, he2⟩ := he
                  subst he1
                  rw [he2] at OZ
                  have OQ := Lib.hid OZ
                  have hdt : hd = x := by rw [← hhd, hh]
                  subst hdt
                  have n0' : (hd == 0) = false := by simp; omega
                  have n1' : (hd == tx) = false := by simpa using hx2
                  have n0'' : ¬ hd = 0 := by omega
                  have n1'' : ¬ hd = tx := hx2
                  clear OZ hB hkq hk hhd zb he2 TP PT hh hx1 hx2
                  go_upto_region 36 with fail
                  clear z1 z4 z5 i5
                  have CL := Lib.hid (wkLen OQ.out.mg)
                  have QE := Lib.hid OQ.out.e1
                  have QM := Lib.hid (show (k : Int) ≤ a0 ∧ (k : Int) ≤ 4096 by have := OQ.out.mg.len; have := OQ.out.mg.m2; have := OQ.out.e1; omega)
                  rw [QE.out] at CL
                  have qm1 : decide (a0 < (k : Int)) = false := by have := QM.out; simp; omega
                  go_upto_region 39 with (go_at_call 15; go_loud (refine CL.out.mono ?_; rintro e wL ⟨rfl, hw⟩; replace hw := hw.symm; subst hw))
                  go_loopw [167] (fun iv wz => ∃ kk : Nat, iv = .int .i64 (kk : Nat) ∧ kk ≤ k ∧ Below wy.heap.size wy wz) (fun iv _ => k - (intOf iv).toNat)
                  case atStart => exact ⟨0, rfl, Nat.zero_le _, Below.refl _ _⟩
                  case round =>
                    rename World => wz
                    obtain ⟨kk, rfl, hk, hB⟩ := hrel
                    by_cases hkq : kk < k
                    · obtain ⟨x, hx⟩ : ∃ x, hs[kk]? = some x := ⟨_, List.getElem?_eq_getElem (by have := QE.out; omega)⟩
                      have OZ := OQ.out.below hB
                      obtain ⟨g1, hA1, d0, d1⟩ := OZ.lock hx
                      obtain ⟨g2, hA2, d2⟩ := OZ.holder hx
                      subst hA1
                      subst hA2
                      have HH := Lib.hid (holder_is OZ.mg.map.once hx)
                      have CH := Lib.hid (wkHolder OZ.mg (l := x.1) (by obtain ⟨D, -, hv⟩ := OZ.mg.map; exact hv.sz x (List.mem_of_getElem? hx)))
                      rw [HH.out] at CH
                      simp only [Option.getD_some, Option.isSome_some] at CH
                      unfold lkV at CH
                      have HK := Lib.hid hkq
                      have HBZ := Lib.hid hB
                      have i5 : (kk : Int) < (k : Int) := by omega
                      have k5 : (kk : Int) ≤ 4096 := by have := QM.out; omega
                      clear hx OZ hB hkq hk
                      go_wp2_with (go_at_call 16; go_loud (refine CH.out.mono ?_; rintro e wH ⟨rfl, bH⟩; have BH := Lib.hid (below_next HBZ.out bH); have d2' := keep_below d2 bH; clear bH))
                      go_roundw
                      case rel => exact ⟨kk + 1, by go_num, HK.out, BH.out⟩
                      case measure => have := HK.out; simp [intOf]; omega
                    · obtain rfl : kk = k := by omega
                      have i5 : ¬ (kk : Int) < (kk : Int) := by omega
                      have OZ := Lib.hid (OQ.out.below hB)
                      clear hB hkq hk CL
                      go_wp2
                      go_roundw
                      case rel => exact ⟨j + 1, hs, B1, kk, c1, B2, c2, rfl, rfl, by go_num, HLT.out, OZ.out⟩
                      case measure => have := HLT.out; simp [intOf]; omega
                · simp only [Prod.mk.injEq] at he
                  obtain ⟨he1, he2⟩ := he
                  subst he1
                  have hdt : hd = 0 := by rw [← hhd, hh]
                  subst hdt
                  have bW : Below wy.heap.size wy (wy.alloc (.cells #[.string tb, .string ky] 34)) := (Below.refl _ _).alloc (Nat.le_refl _) _
                  have OA := Lib.hid (OZ.below bW)
                  have BA := Lib.hid ((bW.block bo (Array.getElem?_eq_some_iff.1 zb).1).trans zb)
                  have HP := Lib.hid he2
                  obtain ⟨hs2, hhs2⟩ : ∃ l, hs ++ [((tb, ky), tx)] = l := ⟨_, rfl⟩
                  have HS2 := Lib.hid hhs2
                  obtain ⟨q2, hq2⟩ : ∃ q2, k + 1 = q2 := ⟨_, rfl⟩
                  have HQ2 := Lib.hid hq2
                  have HBW := Lib.hid (show w.heap.size ≤ (wy.alloc (.cells #[.string tb, .string ky] 34)).heap.size from Nat.le_trans OZ.bel.size (by simp))
                  clear OZ hB hkq hk hhd zb he2 TP PT hh ht hhs2 hq2 bW
                  go_upto_region 33 with (at_builtin; go_loud (refine lr_append seL_ok (by rfl) (.tmp 118) (.tmp 121) (by rfl) (by rfl) OA.out.r1 (some ⟨wy.heap.size, 0, none⟩) 1 1 (cellsL [(tb, ky)]) (by rfl) (sb_lock wy (tb, ky)) (by have := QN.out.2; omega) HBW.out ?_; intro A5 d5 w6 l6 b6 f6; rw [HQ2.out] at l6 ⊢; have O6 := Lib.hid (OA.out.app1 (L1' := hs2) (by rw [← HS2.out, List.map_append, cellsL_app]; exact l6) (by rw [← HS2.out, ← HQ2.out, List.length_append, QN.out.1]; rfl) b6 f6); have B6 := Lib.hid (OA.out.aside1 BA.out (by decide) f6); clear l6 b6 f6))
                  clear z1 z4 z5
                  have y1 : w6.cell? ⟨bo, 1, none⟩ = some (.int .i64 tx) := cell_of_row _ _ 1 _ _ _ B6.out
                  have bV : Below w6.heap.size w6 (w6.alloc (.cells #[.int .i64 tx] 2)) := (Below.refl _ _).alloc (Nat.le_refl _) _
                  have OV := Lib.hid (O6.out.below bV)
                  have HBV := Lib.hid (show w.heap.size ≤ (w6.alloc (.cells #[.int .i64 tx] 2)).heap.size from Nat.le_trans O6.out.bel.size (by simp))
                  clear bV
                  go_upto_region 36 with (at_builtin; go_loud (refine lr_append seN_ok (by rfl) (.tmp 123) (.tmp 126) (by rfl) (by rfl) OV.out.r2 (some ⟨w6.heap.size, 0, none⟩) 1 1 (numC [tx]) (by rfl) (sb_num w6 tx) (by have := QN.out.2; omega) HBV.out ?_; intro A6 d6 w7 l7 b7 f7; rw [HQ2.out] at l7 ⊢; have O7 := Lib.hid (OV.out.app2 (L2' := hs2) (by rw [← HS2.out, List.map_append]; simpa [numC] using l7) (by rw [← HS2.out, ← HQ2.out, List.length_append, QN.out.1]; rfl) b7 f7); clear l7 b7 f7))
                  have OQ := Lib.hid (show One8 w w7 m r a0 hs2 hs2 hs2 A5 q2 d5 A6 q2 d6 by have h := O7.out; rw [HP.out, HS2.out] at h; exact h)
                  clear y1
                  have CL := Lib.hid (wkLen OQ.out.mg)
                  have QE := Lib.hid OQ.out.e1
                  have QM := Lib.hid (show (q2 : Int) ≤ a0 ∧ (q2 : Int) ≤ 4096 by have := OQ.out.mg.len; have := OQ.out.mg.m2; have := OQ.out.e1; omega)
                  rw [QE.out] at CL
                  have qm1 : decide (a0 < (q2 : Int)) = false := by have := QM.out; simp; omega
                  go_upto_region 39 with (go_at_call 15; go_loud (refine CL.out.mono ?_; rintro e wL ⟨rfl, hw⟩; replace hw := hw.symm; subst hw))
                  go_loopw [167] (fun iv wz => ∃ kk : Nat, iv = .int .i64 (kk : Nat) ∧ kk ≤ q2 ∧ Below w7.heap.size w7 wz) (fun iv _ => q2 - (intOf iv).toNat)
                  case atStart => exact ⟨0, rfl, Nat.zero_le _, Below.refl _ _⟩
                  case round =>
                    rename World => wz
                    obtain ⟨kk, rfl, hk, hB⟩ := hrel
                    by_cases hkq : kk < q2
                    · obtain ⟨x, hx⟩ : ∃ x, hs2[kk]? = some x := ⟨_, List.getElem?_eq_getElem (by have := QE.out; omega)⟩
                      have OZ := OQ.out.below hB
                      obtain ⟨g1, hA1, d0, d1⟩ := OZ.lock hx
                      obtain ⟨g2, hA2, d2⟩ := OZ.holder hx
                      subst hA1
                      subst hA2
                      have HH := Lib.hid (holder_is OZ.mg.map.once hx)
                      have CH := Lib.hid (wkHolder OZ.mg (l := x.1) (by obtain ⟨D, -, hv⟩ := OZ.mg.map; exact hv.sz x (List.mem_of_getElem? hx)))
                      rw [HH.out] at CH
                      simp only [Option.getD_some, Option.isSome_some] at CH
                      unfold lkV at CH
                      have HK := Lib.hid hkq
                      have HBZ := Lib.hid hB
                      have i5 : (kk : Int) < (q2 : Int) := by omega
                      have k5 : (kk : Int) ≤ 4096 := by have := QM.out; omega
                      clear hx OZ hB hkq hk
                      go_wp2_with (go_at_call 16; go_loud (refine CH.out.mono ?_; rintro e wH ⟨rfl, bH⟩; have BH := Lib.hid (below_next HBZ.out bH); have d2' := keep_below d2 bH; clear bH))
                      go_roundw
                      case rel => exact ⟨kk + 1, by go_num, HK.out, BH.out⟩
                      case measure => have := HK.out; simp [intOf]; omega
                    · obtain rfl : kk = q2 := by omega
                      have i5 : ¬ (kk : Int) < (kk : Int) := by omega
                      have OZ := Lib.hid (OQ.out.below hB)
                      clear hB hkq hk CL
                      go_wp2
                      go_roundw
                      case rel => exact ⟨j + 1, hs2, A5, kk, d5, A6, d6, rfl, rfl, by go_num, HLT.out, OZ.out⟩
                      case measure => have := HLT.out; simp [intOf]; omega
          · have hk0' : (kind == 0) = false := by simpa using hk0
            clear hk0
            go_upto_region 36 with fail
            have CL := Lib.hid (wkLen OY.out.mg)
            have QE := Lib.hid OY.out.e1
            have QM := Lib.hid (show (q : Int) ≤ a0 ∧ (q : Int) ≤ 4096 by have := OY.out.mg.len; have := OY.out.mg.m2; have := OY.out.e1; omega)
            rw [QE.out] at CL
            have qm1 : decide (a0 < (q : Int)) = false := by have := QM.out; simp; omega
            go_upto_region 39 with (go_at_call 15; go_loud (refine CL.out.mono ?_; rintro e wL ⟨rfl, hw⟩; replace hw := hw.symm; subst hw))
            go_loopw [167] (fun iv wz => ∃ kk : Nat, iv = .int .i64 (kk : Nat) ∧ kk ≤ q ∧ Below Y.heap.size Y wz) (fun iv _ => q - (intOf iv).toNat)
            case atStart => exact ⟨0, rfl, Nat.zero_le _, Below.refl _ _⟩
            case round =>
              rename World => wz
              obtain ⟨kk, rfl, hk, hB⟩ := hrel
              by_cases hkq : kk < q
              · obtain ⟨x, hx⟩ : ∃ x, hs[kk]? = some x := ⟨_, List.getElem?_eq_getElem (by have := QE.out; omega)⟩
                have OZ := OY.out.below hB
                obtain ⟨g1, hA1, d0, d1⟩ := OZ.lock hx
                obtain ⟨g2, hA2, d2⟩ := OZ.holder hx
                subst hA1
                subst hA2
                have HH := Lib.hid (holder_is OZ.mg.map.once hx)
                have CH := Lib.hid (wkHolder OZ.mg (l := x.1) (by obtain ⟨D, -, hv⟩ := OZ.mg.map; exact hv.sz x (List.mem_of_getElem? hx)))
                rw [HH.out] at CH
                simp only [Option.getD_some, Option.isSome_some] at CH
                unfold lkV at CH
                have HK := Lib.hid hkq
                have HBZ := Lib.hid hB
                have i5 : (kk : Int) < (q : Int) := by omega
                have k5 : (kk : Int) ≤ 4096 := by have := QM.out; omega
                clear hx OZ hB hkq hk
                go_wp2_with (go_at_call 16; go_loud (refine CH.out.mono ?_; rintro e wH ⟨rfl, bH⟩; have BH := Lib.hid (below_next HBZ.out bH); have d2' := keep_below d2 bH; clear bH))
                go_roundw
                case rel => exact ⟨kk + 1, by go_num, HK.out, BH.out⟩
                case measure => have := HK.out; simp [intOf]; omega
              · obtain rfl : kk = q := by omega
                have i5 : ¬ (kk : Int) < (kk : Int) := by omega
                have OZ := Lib.hid (OY.out.below hB)
                clear hB hkq hk CL
                go_wp2
                go_roundw
                case rel => exact ⟨j + 1, hs, B1, kk, c1, B2, c2, rfl, rfl, by go_num, HLT.out, OZ.out⟩
                case measure => have := HLT.out; simp [intOf]; omega
      · obtain rfl : j = n1 := by omega
        have i1 : ¬ (j : Int) < (j : Int) := by omega
        have HB := Lib.hid hO.bel
        clear hO hlt hj
        go_wp2
        go_ret
        exact ⟨rfl, HB.out⟩
end Go.Proofs.Ytghnafknbgmagaa
