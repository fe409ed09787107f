/- The walk of SsiAlone: one behind the other none is refused but for room; without reads none as not serial. -/
import Derived.Test.YtknppiebncdjmaaGreatSsAln
import Derived.Test.YtknppiebncdjmaaGreatJBO
set_option linter.unusedVariables false
namespace Go.Proofs.YtknppiebncdjmaaGreat
set_option maxRecDepth 100000
open Go.RowKit

set_option maxHeartbeats 16000000 in
theorem walk_SsiAlone (a0_0 a0_1 a0_2 a0_3 : Int) (A1 : Option Addr) (n1 c1 : Nat) (z1 : List OpX) (w : World) (_ha0_0 : -9223372036854775808 ≤ a0_0 ∧ a0_0 ≤ 9223372036854775807) (_ha0_1 : -9223372036854775808 ≤ a0_1 ∧ a0_1 ≤ 9223372036854775807) (_ha0_2 : -9223372036854775808 ≤ a0_2 ∧ a0_2 ≤ 9223372036854775807) (_ha0_3 : -9223372036854775808 ≤ a0_3 ∧ a0_3 ≤ 9223372036854775807) (h1 : RX w A1 n1 z1) (hn1 : n1 ≤ c1) (hc1 : c1 ≤ 1048576) :
    Calls Tryz.prog 6 #[.agg #[.int .i64 a0_0, .int .i64 a0_1, .int .i64 a0_2, .int .i64 a0_3], .slice A1 n1 c1] w fun e w' => e = .returned (.bool true) ∧ Below w.heap.size w w' := by
  clear _ha0_0 _ha0_1 _ha0_2 _ha0_3
  have hn : n1 ≤ 1048576 := Nat.le_trans hn1 hc1
  have CB := Lib.hid (fun W => wbegun10 W)
  obtain ⟨W, hW⟩ : ∃ W, w.alloc (.cells #[.int .i64 a0_0, .int .i64 a0_1, .int .i64 a0_2, .int .i64 a0_3] 23) = W := ⟨_, rfl⟩
  have HW := Lib.hid hW
  have hB : Below w.heap.size w W := by rw [← hW]; exact (Below.refl _ _).alloc (Nat.le_refl _) _
  have q0 : W.heap[w.heap.size]? = some (.cells #[.int .i64 a0_0, .int .i64 a0_1, .int .i64 a0_2, .int .i64 a0_3] 23 (0, 0)) := by rw [← hW]; exact heap_alloc_new _ _
  have x0 : W.cell? ⟨w.heap.size, 0, none⟩ = some (.int .i64 a0_0) := cell_of_row _ _ 0 _ _ _ q0
  have x1 : W.cell? ⟨w.heap.size, 1, none⟩ = some (.int .i64 a0_1) := cell_of_row _ _ 1 _ _ _ q0
  have x2 : W.cell? ⟨w.heap.size, 2, none⟩ = some (.int .i64 a0_2) := cell_of_row _ _ 2 _ _ _ q0
  have x3 : W.cell? ⟨w.heap.size, 3, none⟩ = some (.int .i64 a0_3) := cell_of_row _ _ 3 _ _ _ q0
  have HB := Lib.hid hB
  have H1 := Lib.hid (h1.below hB)
  have HN := Lib.hid hn
  clear hW hB q0 h1 hn hn1 hc1
  by_cases hok : capOk a0_0 a0_1 a0_2 a0_3
  rotate_left
  · have CN := Lib.hid (fun W => wStart_no W (A := A1) (n := n1) (c := c1) hok)
    have CM := Lib.hid (fun W => wMay_no W hok)
    clear hok
    go_enter Tryz.func6, Tryz.ntmps6
    go_upto_region 1 with fail
    rw [HW.out]
    go_wp2_with (first
      | (go_at_call 13; go_loud (refine (CB.out _).mono ?_; rintro e w2 ⟨rfl, b2⟩; have B2 := Lib.hid (below_next HB.out b2); replace x0 := keep_below x0 b2; replace x1 := keep_below x1 b2; replace x2 := keep_below x2 b2; replace x3 := keep_below x3 b2; clear b2))
      | (go_at_call 20; refine (CN.out _).mono ?_; rintro e w9 ⟨rfl, b9⟩; have B3 := Lib.hid (below_next B4.out b9); replace x0 := keep_below x0 b9; replace x1 := keep_below x1 b9; replace x2 := keep_below x2 b9; replace x3 := keep_below x3 b9; clear b9)
      | (go_at_call 20; refine (CN.out _).mono ?_; rintro e w3 ⟨rfl, b3⟩; have B4 := Lib.hid (below_next B2.out b3); replace x0 := keep_below x0 b3; replace x1 := keep_below x1 b3; replace x2 := keep_below x2 b3; replace x3 := keep_below x3 b3; clear b3)
      | (go_at_call 21; go_loud (refine (CM.out _).mono ?_; rintro e w4 ⟨rfl, b4⟩; have B5 := Lib.hid (below_next B3.out b4); clear b4)))
    go_ret
    exact ⟨rfl, B5.out⟩
  · obtain ⟨rn, rfl⟩ := Int.eq_ofNat_of_zero_le (show 0 ≤ a0_2 by have := hok.2.2.1.1; omega)
    have hr1 : 1 ≤ rn := by have := hok.2.2.1.1; omega
    have CN := Lib.hid (fun W (h : RX W A1 n1 z1) => wStart W (c := c1) hok h HN.out)
    have LN := Lib.hid (Lp10.new (c := ⟨a0_0, a0_1, rn, a0_3⟩) hr1 (max 1 n1) 0 0 0)
    have HCA := Lib.hid (show 1 ≤ (⟨a0_0, a0_1, rn, a0_3⟩ : Cp10).act from hok.1.1)
    obtain ⟨cp, hcp⟩ : ∃ cp : Cp10, (⟨a0_0, a0_1, rn, a0_3⟩ : Cp10) = cp := ⟨_, rfl⟩
    rw [hcp] at LN CN HCA
    have HRL := Lib.hid (show (rowsP z1).length ≤ max 1 n1 by have := rows_len z1; have := H1.out.len; omega)
    have HR := Lib.hid (show 1 ≤ max 1 n1 ∧ max 1 n1 ≤ 1048576 by have := HN.out; omega)
    clear hok hcp hr1
    go_enter Tryz.func6, Tryz.ntmps6
    go_upto_region 1 with fail
    rw [HW.out]
    go_upto_region 5 with (first
      | (go_at_call 13; go_loud (refine (CB.out _).mono ?_; rintro e w2 ⟨rfl, b2⟩; have B2 := Lib.hid (below_next HB.out b2); have H2 := Lib.hid (H1.out.below b2); replace x0 := keep_below x0 b2; replace x1 := keep_below x1 b2; replace x2 := keep_below x2 b2; replace x3 := keep_below x3 b2; clear b2))
      | (go_at_call 20; refine (CN.out _ H3.out).mono ?_; rintro e w4 ⟨p2, b2, G2, K2, V2, rfl, m4, d4, g4, k4, b4⟩; have M4 := Lib.hid m4; have D4 := Lib.hid d4; have G4 := Lib.hid (And.intro g4 k4); have B4 := Lib.hid b4; clear m4 d4 g4 k4 b4)
      | (go_at_call 20; refine (CN.out _ H2.out).mono ?_; rintro e w3 ⟨p, b, G, K, V, rfl, m3, d3, g3, k3, b3⟩; have M3 := Lib.hid m3; have D3 := Lib.hid d3; have G3 := Lib.hid (And.intro g3 k3); have B3 := Lib.hid b3; have H3 := Lib.hid (H2.out.below b3); replace x0 := keep_below x0 b3; replace x1 := keep_below x1 b3; replace x2 := keep_below x2 b3; replace x3 := keep_below x3 b3; clear m3 d3 g3 k3 b3))
    clear x0 x1 x2 x3
    have W0 : Do10 (fun _ => False) w3 w2 w3 G K p b V (rowsP z1) [] [] cp (new10 0) := ⟨M3.out, D3.out.keep (fun _ _ => rfl) fun k hk hg => hg.elim (D3.out.ap k hk) id, fun k h => h.elim (G3.out.1 k) (G3.out.2 k), B3.out, Out.refl _ _, fun _ h => h.elim⟩
    have DW := Lib.hid (show DoIs (fun k => w3.heap.size ≤ k ∧ k < w4.heap.size) w4 w2 p b (rowsP z1) cp ⟨new10 0, [], []⟩ w4 from ⟨G, K, V, [], W0.frame B4.out, rfl⟩)
    have H4 := Lib.hid (H3.out.below B4.out)
    have HPW := Lib.hid (fun k (h : w3.heap.size ≤ k ∧ k < w4.heap.size) => h.2)
    clear W0 M3 D3 G3
    obtain ⟨R, hR⟩ : ∃ R, max 1 n1 = R := ⟨_, rfl⟩
    rw [hR] at LN HRL HR
    go_upto_region 9 with fail
    go_loopw [9, 40] (fun tv i wr => ∃ (j : Nat) (X : Pl10) (gs : List Run10) (tx : Int), i = .int .i64 (j : Nat) ∧ tv = .int .i64 tx ∧ j ≤ n1 ∧ (0 ≤ tx ∧ tx ≤ 1048577) ∧ DoIs (fun k => w3.heap.size ≤ k ∧ k < w4.heap.size) w4 w2 p b (rowsP z1) cp X wr ∧ Lp10 R j j j cp X gs (2 * (j : Int)) ∧ Alo X tx) (fun _ i _ => n1 - (intOf i).toNat)
    case atStart => exact ⟨0, _, _, 0, rfl, rfl, Nat.zero_le _, ⟨by decide, by decide⟩, DW.out, LN.out, Alo.new⟩
    case round =>
      rename World => wr
      obtain ⟨j, X, gs, tx, rfl, rfl, hj, htx, hD, hL, hA⟩ := hrel
      by_cases hlt : j < n1
      · obtain ⟨x, hx⟩ : ∃ x, z1[j]? = some x := ⟨_, List.getElem?_eq_getElem (by have := H2.out.len; omega)⟩
        have HO := Lib.hid (H2.out.is x (List.mem_of_getElem? hx))
        obtain ⟨ab, ao, rfl, q0, q1, q2, q3, q4, q5⟩ := (H2.out.below hD.bel).at_ hx
        obtain ⟨xd, xt, ⟨tb, ky⟩, to_, xl⟩ := x
        dsimp only at q0 q1 q2 q3 q4 q5
        obtain ⟨Y, hY⟩ : ∃ Y, wr.alloc (.cells #[.int .i64 xd, .int .i64 xt, .string tb, .string ky, .string to_, .int .i64 xl] 44) = Y := ⟨_, rfl⟩
        have HY := Lib.hid hY
        have gY : Below wr.heap.size wr Y := by rw [← hY]; exact alloc_below10 _ _
        have rY : Y.heap[wr.heap.size]? = some (.cells #[.int .i64 xd, .int .i64 xt, .string tb, .string ky, .string to_, .int .i64 xl] 44 (0, 0)) := by rw [← hY]; exact heap_alloc_new _ _
        have YK := Lib.hid (fun (U : World) (u1 u2 u3 u4 u5 u6 : Value) (g : U.heap[wr.heap.size]? = some (.cells #[u1, u2, u3, u4, u5, u6] 44 (0, 0))) => (⟨cell_of_row _ _ 0 _ _ _ g, cell_of_row _ _ 1 _ _ _ g, cell_of_row _ _ 2 _ _ _ g, cell_of_row _ _ 3 _ _ _ g, cell_of_row _ _ 4 _ _ _ g, cell_of_row _ _ 5 _ _ _ g⟩ : U.cell? ⟨wr.heap.size, 0, none⟩ = some u1 ∧ U.cell? ⟨wr.heap.size, 1, none⟩ = some u2 ∧ U.cell? ⟨wr.heap.size, 2, none⟩ = some u3 ∧ U.cell? ⟨wr.heap.size, 3, none⟩ = some u4 ∧ U.cell? ⟨wr.heap.size, 4, none⟩ = some u5 ∧ U.cell? ⟨wr.heap.size, 5, none⟩ = some u6))
        obtain ⟨y0, y1, y2, y3, y4, y5⟩ := YK.out Y _ _ _ _ _ _ rY
        have y1f : Y.frozen? ⟨wr.heap.size, 1, none⟩ = false := frozen_of_row _ _ _ _ _ rY
        have i1 : (j : Int) < (n1 : Int) := by omega
        have l1 : (j : Int) ≤ 1048576 := by have := HN.out; omega
        have HLT := Lib.hid hlt
        have HJ := Lib.hid (show j ≤ 1048576 ∧ j + 1 ≤ 1048576 by have := HN.out; omega)
        have HD := Lib.hid hD
        have HL := Lib.hid hL
        have HA := Lib.hid hA
        have RY := Lib.hid rY
        have GY := Lib.hid gY
        have HTX := Lib.hid htx
        clear hj hlt hx hD hL hA hY
        go_upto_region 11 with fail
        rw [HY.out]
        clear q0 q1 q2 q3 q4 q5
        by_cases hd0 : xd = 0
        · subst hd0
          by_cases ht0 : tx > 0
          · have CO := Lib.hid (show Calls Tryz.prog 26 #[.pointer (some ⟨p, 0, none⟩), .int .i64 tx] Y fun e w' => e = .returned (.int .i64 (ofW X.rs tx)) ∧ Below Y.heap.size Y w' by
              obtain ⟨G5, K5, V5, ms5, D5, hms5⟩ := HD.out.below gY
              rw [← hms5]
              have h5 := HL.out.cnt.n
              rw [← hms5, List.length_map] at h5
              exact D5.d.of (by have := HJ.out; omega) tx)
            rcases ofW_is X.rs tx with ⟨h1, -⟩ | ⟨i, r, h1, -⟩
            · rw [h1] at CO
              obtain ⟨he, gs1, L1⟩ := HA.out.none HL.out h1
              go_upto_region 14 with (go_at_call 26; go_loud (refine CO.out.mono ?_; rintro e w5 ⟨rfl, b5⟩; have B5 := Lib.hid b5; clear b5))
              have D1 := Lib.hid (HD.out.ext (below_next GY.out B5.out))
              have OU := Lib.hid (HD.out.out.then (Out.of_below (below_next GY.out B5.out) _))
              have r5 := (B5.out.block _ (Array.getElem?_eq_some_iff.1 RY.out).1).trans RY.out
              obtain ⟨z0, z1', z2, z3, z4, z5⟩ := YK.out w5 _ _ _ _ _ _ r5
              obtain ⟨h6, r, gs2, hrs, hrt, A2, L2⟩ := Alo.first (rows := rowsP z1) (o := ⟨0, xt, (tb, ky), to_, xl⟩) (mo := (j : Int)) (X1 := X) L1 (by omega) (by have := HN.out; omega) he HCA.out rfl
              have CDB := Lib.hid (fun P wf W (D : DoIs P wf w2 p b (rowsP z1) cp X W) => wDo D L1 (by omega) (by have := HN.out; omega) (by have := HJ.out; omega) (by have := HJ.out; omega) (by have := HJ.out; omega) HR.out.2 HRL.out ⟨0, xt, (tb, ky), to_, xl⟩ HO.out j)
              obtain ⟨⟨e2, X2⟩, hq2⟩ : ∃ q, doP cp (rowsP z1) X ⟨0, xt, (tb, ky), to_, xl⟩ (j : Int) = q := ⟨_, rfl⟩
              rw [hq2] at h6 hrs A2 L2
              simp only [hq2] at CDB
              dsimp only at h6 hrs A2 L2 CDB
              subst h6
              have A3 := Lib.hid A2
              have L3 := Lib.hid L2
              have HRT := Lib.hid hrt
              have HRS := Lib.hid hrs
              clear y0 y1 y2 y3 y4 y5 y1f rY gY r5 A2 L2 hq2 he L1 hrt hrs
              go_upto_region 15 with (go_at_call 22; go_loud (refine (CDB.out _ _ _ D1.out).mono ?_; rintro e w8 ⟨rfl, d8⟩; have D8 := Lib.hid (DoIs.unext d8 OU.out HPW.out); clear d8))
              clear z0 z1' z2 z3 z4 z5
              obtain ⟨A7, c7, ms7, LS7, hms7⟩ := D8.out.lst
              have hl7 : ms7.length = X.rs.length + 1 := by rw [← List.length_map (f := fun m : RunM => m.r), hms7, HRS.out, List.length_append]; rfl
              obtain ⟨m7, hm7⟩ : ∃ m, ms7[X.rs.length]? = some m := ⟨_, List.getElem?_eq_getElem (by omega)⟩
              have hr7 : m7.r = r := by
                have h8 : (ms7.map (·.r))[X.rs.length]? = some m7.r := by rw [List.getElem?_map, hm7]; rfl
                rw [hms7, HRS.out, List.getElem?_append_right (Nat.le_refl _), Nat.sub_self] at h8
                simpa using h8.symm
              have p3 := LS7.cell
              obtain ⟨g7, o7, rfl, t0, -⟩ := LS7.at_ hm7
              rw [hr7] at t0
              obtain ⟨nq, hnq⟩ : ∃ nq, X.rs.length = nq := ⟨_, rfl⟩
              rw [hnq] at hl7 t0
              rw [hl7] at p3
              have i5 : ((nq + 1 : Nat) : Int) - 1 = (nq : Int) := by omega
              have i6 : (nq : Int) < ((nq + 1 : Nat) : Int) := by omega
              have i7 : (nq : Int) ≤ 1048576 := by have h9 := L3.out.cnt.n; rw [HRS.out, List.length_append, hnq] at h9; have := HJ.out; simp at h9; omega
              have p0 := (show w8.cell? ⟨p, 0, none⟩ = some (.pointer (some ⟨b, 0, none⟩)) from D8.out.cells.choose_spec.choose_spec.choose_spec.choose_spec.1)
              clear hl7 hm7 hr7 LS7 hms7 hnq
              go_upto_region 16 with fail
              go_quiet (fail)
              go_wp2
              go_roundw
              case rel => exact ⟨j + 1, X2, gs2, r.tx, by go_num, rfl, HLT.out, ⟨HRT.out.1, by have := HRT.out.2; have := HJ.out; omega⟩, D8.out.below (bel_drewN _ _), by have := L3.out; rw [show 2 * ((j + 1 : Nat) : Int) = 2 * (j : Int) + 1 + 1 by omega]; exact this.mono (Nat.le_refl _) (Nat.le_refl _) (Nat.le_refl _), A3.out⟩
              case measure => have := HLT.out; simp [intOf]; omega
            · rw [h1] at CO
              obtain ⟨hz, he, gs1, L1⟩ := HA.out.end_ (rows := rowsP z1) (mo := (j : Int)) HL.out (by omega) (by have := HN.out; omega) HR.out.1 HRL.out (by rw [h1]; omega)
              have CDC := Lib.hid (fun P wf W (D : DoIs P wf w2 p b (rowsP z1) cp X W) => wDo D HL.out (by omega) (by have := HN.out; omega) (by have := HJ.out; omega) (by have := HJ.out; omega) (by have := HJ.out; omega) HR.out.2 HRL.out (comO tx) (comO_is HTX.out) j)
              obtain ⟨⟨er, X1⟩, hq⟩ : ∃ q, doP cp (rowsP z1) X (comO tx) (j : Int) = q := ⟨_, rfl⟩
              rw [hq] at hz he L1
              simp only [hq] at CDC
              dsimp only at hz he L1 CDC
              subst hz
              have i9 : ¬ (i : Int) < 0 := by omega
              have i8 : (0 : Int) ≤ (i : Int) := by omega
              go_upto_region 14 with (first
                | (go_at_call 26; go_loud (refine CO.out.mono ?_; rintro e w6 ⟨rfl, b6⟩; have B6 := Lib.hid b6; have DE := Lib.hid (HD.out.ext (below_next GY.out b6)); clear b6))
                | (go_at_call 22; go_loud (refine (CDC.out _ _ _ DE.out).mono ?_; rintro e w5 ⟨rfl, d5⟩; have D1 := Lib.hid d5; clear d5)))
              have OU := Lib.hid (HD.out.out.then (Out.of_below (below_next GY.out B6.out) _))
              have r5 := (D1.out.kept wr.heap.size (.inr ⟨Nat.le_refl _, by have := (Array.getElem?_eq_some_iff.1 RY.out).1; have := B6.out.size; omega⟩)).trans ((B6.out.block _ (Array.getElem?_eq_some_iff.1 RY.out).1).trans RY.out)
              obtain ⟨z0, z1', z2, z3, z4, z5⟩ := YK.out w5 _ _ _ _ _ _ r5
              obtain ⟨h6, r, gs2, hrs, hrt, A2, L2⟩ := Alo.first (rows := rowsP z1) (o := ⟨0, xt, (tb, ky), to_, xl⟩) (mo := (j : Int)) (X1 := X1) L1 (by omega) (by have := HN.out; omega) he HCA.out rfl
              have CDB := Lib.hid (fun P wf W (D : DoIs P wf w2 p b (rowsP z1) cp X1 W) => wDo D L1 (by omega) (by have := HN.out; omega) (by have := HJ.out; omega) (by have := HJ.out; omega) (by have := HJ.out; omega) HR.out.2 HRL.out ⟨0, xt, (tb, ky), to_, xl⟩ HO.out j)
              obtain ⟨⟨e2, X2⟩, hq2⟩ : ∃ q, doP cp (rowsP z1) X1 ⟨0, xt, (tb, ky), to_, xl⟩ (j : Int) = q := ⟨_, rfl⟩
              rw [hq2] at h6 hrs A2 L2
              simp only [hq2] at CDB
              dsimp only at h6 hrs A2 L2 CDB
              subst h6
              have A3 := Lib.hid A2
              have L3 := Lib.hid L2
              have HRT := Lib.hid hrt
              have HRS := Lib.hid hrs
              clear y0 y1 y2 y3 y4 y5 y1f rY gY r5 A2 L2 hq2 he L1 hrt hrs
              go_upto_region 15 with (go_at_call 22; go_loud (refine (CDB.out _ _ _ D1.out).mono ?_; rintro e w8 ⟨rfl, d8⟩; have D8 := Lib.hid (DoIs.unext d8 OU.out HPW.out); clear d8))
              clear z0 z1' z2 z3 z4 z5
              obtain ⟨A7, c7, ms7, LS7, hms7⟩ := D8.out.lst
              have hl7 : ms7.length = X1.rs.length + 1 := by rw [← List.length_map (f := fun m : RunM => m.r), hms7, HRS.out, List.length_append]; rfl
              obtain ⟨m7, hm7⟩ : ∃ m, ms7[X1.rs.length]? = some m := ⟨_, List.getElem?_eq_getElem (by omega)⟩
              have hr7 : m7.r = r := by
                have h8 : (ms7.map (·.r))[X1.rs.length]? = some m7.r := by rw [List.getElem?_map, hm7]; rfl
                rw [hms7, HRS.out, List.getElem?_append_right (Nat.le_refl _), Nat.sub_self] at h8
                simpa using h8.symm
              have p3 := LS7.cell
              obtain ⟨g7, o7, rfl, t0, -⟩ := LS7.at_ hm7
              rw [hr7] at t0
              obtain ⟨nq, hnq⟩ : ∃ nq, X1.rs.length = nq := ⟨_, rfl⟩
              rw [hnq] at hl7 t0
              rw [hl7] at p3
              have i5 : ((nq + 1 : Nat) : Int) - 1 = (nq : Int) := by omega
              have i6 : (nq : Int) < ((nq + 1 : Nat) : Int) := by omega
              have i7 : (nq : Int) ≤ 1048576 := by have h9 := L3.out.cnt.n; rw [HRS.out, List.length_append, hnq] at h9; have := HJ.out; simp at h9; omega
              have p0 := (show w8.cell? ⟨p, 0, none⟩ = some (.pointer (some ⟨b, 0, none⟩)) from D8.out.cells.choose_spec.choose_spec.choose_spec.choose_spec.1)
              clear hl7 hm7 hr7 LS7 hms7 hnq
              go_upto_region 16 with fail
              go_quiet (fail)
              go_wp2
              go_roundw
              case rel => exact ⟨j + 1, X2, gs2, r.tx, by go_num, rfl, HLT.out, ⟨HRT.out.1, by have := HRT.out.2; have := HJ.out; omega⟩, D8.out.below (bel_drewN _ _), by have := L3.out; rw [show 2 * ((j + 1 : Nat) : Int) = 2 * (j : Int) + 1 + 1 by omega]; exact this.mono (Nat.le_refl _) (Nat.le_refl _) (Nat.le_refl _), A3.out⟩
              case measure => have := HLT.out; simp [intOf]; omega
          · obtain rfl : tx = 0 := by have := htx.1; omega
            obtain ⟨he, gs1, L1⟩ := HA.out.none HL.out (of_zero HL.out)
            go_upto_region 14 with fail
            have D1 := Lib.hid (HD.out.ext GY.out)
            have OU := Lib.hid (HD.out.out.then (Out.of_below GY.out _))
            have r5 := RY.out
            obtain ⟨z0, z1', z2, z3, z4, z5⟩ := YK.out Y _ _ _ _ _ _ r5
            obtain ⟨h6, r, gs2, hrs, hrt, A2, L2⟩ := Alo.first (rows := rowsP z1) (o := ⟨0, xt, (tb, ky), to_, xl⟩) (mo := (j : Int)) (X1 := X) L1 (by omega) (by have := HN.out; omega) he HCA.out rfl
            have CDB := Lib.hid (fun P wf W (D : DoIs P wf w2 p b (rowsP z1) cp X W) => wDo D L1 (by omega) (by have := HN.out; omega) (by have := HJ.out; omega) (by have := HJ.out; omega) (by have := HJ.out; omega) HR.out.2 HRL.out ⟨0, xt, (tb, ky), to_, xl⟩ HO.out j)
            obtain ⟨⟨e2, X2⟩, hq2⟩ : ∃ q, doP cp (rowsP z1) X ⟨0, xt, (tb, ky), to_, xl⟩ (j : Int) = q := ⟨_, rfl⟩
            rw [hq2] at h6 hrs A2 L2
            simp only [hq2] at CDB
            dsimp only at h6 hrs A2 L2 CDB
            subst h6
            have A3 := Lib.hid A2
            have L3 := Lib.hid L2
            have HRT := Lib.hid hrt
            have HRS := Lib.hid hrs
            clear y0 y1 y2 y3 y4 y5 y1f rY gY r5 A2 L2 hq2 he L1 hrt hrs
            go_upto_region 15 with (go_at_call 22; go_loud (refine (CDB.out _ _ _ D1.out).mono ?_; rintro e w8 ⟨rfl, d8⟩; have D8 := Lib.hid (DoIs.unext d8 OU.out HPW.out); clear d8))
            clear z0 z1' z2 z3 z4 z5
            obtain ⟨A7, c7, ms7, LS7, hms7⟩ := D8.out.lst
            have hl7 : ms7.length = X.rs.length + 1 := by rw [← List.length_map (f := fun m : RunM => m.r), hms7, HRS.out, List.length_append]; rfl
            obtain ⟨m7, hm7⟩ : ∃ m, ms7[X.rs.length]? = some m := ⟨_, List.getElem?_eq_getElem (by omega)⟩
            have hr7 : m7.r = r := by
              have h8 : (ms7.map (·.r))[X.rs.length]? = some m7.r := by rw [List.getElem?_map, hm7]; rfl
              rw [hms7, HRS.out, List.getElem?_append_right (Nat.le_refl _), Nat.sub_self] at h8
              simpa using h8.symm
            have p3 := LS7.cell
            obtain ⟨g7, o7, rfl, t0, -⟩ := LS7.at_ hm7
            rw [hr7] at t0
            obtain ⟨nq, hnq⟩ : ∃ nq, X.rs.length = nq := ⟨_, rfl⟩
            rw [hnq] at hl7 t0
            rw [hl7] at p3
            have i5 : ((nq + 1 : Nat) : Int) - 1 = (nq : Int) := by omega
            have i6 : (nq : Int) < ((nq + 1 : Nat) : Int) := by omega
            have i7 : (nq : Int) ≤ 1048576 := by have h9 := L3.out.cnt.n; rw [HRS.out, List.length_append, hnq] at h9; have := HJ.out; simp at h9; omega
            have p0 := (show w8.cell? ⟨p, 0, none⟩ = some (.pointer (some ⟨b, 0, none⟩)) from D8.out.cells.choose_spec.choose_spec.choose_spec.choose_spec.1)
            clear hl7 hm7 hr7 LS7 hms7 hnq
            go_upto_region 16 with fail
            go_quiet (fail)
            go_wp2
            go_roundw
            case rel => exact ⟨j + 1, X2, gs2, r.tx, by go_num, rfl, HLT.out, ⟨HRT.out.1, by have := HRT.out.2; have := HJ.out; omega⟩, D8.out.below (bel_drewN _ _), by have := L3.out; rw [show 2 * ((j + 1 : Nat) : Int) = 2 * (j : Int) + 1 + 1 by omega]; exact this.mono (Nat.le_refl _) (Nat.le_refl _) (Nat.le_refl _), A3.out⟩
            case measure => have := HLT.out; simp [intOf]; omega
        · have hd0' : (xd == 0) = false := by simpa using hd0
          have rY2 := heap_setCell_same Y wr.heap.size 1 _ _ (.int .i64 tx) rY
          obtain ⟨hs1, hs2, gs1, L1⟩ := HA.out.step (o := ⟨xd, tx, (tb, ky), to_, xl⟩) (rows := rowsP z1) (mo := (j : Int)) HL.out (by omega) (by have := HN.out; omega) HR.out.1 HRL.out hd0 rfl
          have CDC := Lib.hid (fun P wf W (D : DoIs P wf w2 p b (rowsP z1) cp X W) => wDo D HL.out (by omega) (by have := HN.out; omega) (by have := HJ.out; omega) (by have := HJ.out; omega) (by have := HJ.out; omega) HR.out.2 HRL.out ⟨xd, tx, (tb, ky), to_, xl⟩ ⟨HO.out.rd, ⟨by show _ ≤ tx; have := HTX.out; omega, by show tx ≤ _; have := HTX.out; omega⟩, HO.out.rl, HO.out.tb, HO.out.ky, HO.out.to_⟩ j)
          obtain ⟨⟨er, X1⟩, hq⟩ : ∃ q, doP cp (rowsP z1) X ⟨xd, tx, (tb, ky), to_, xl⟩ (j : Int) = q := ⟨_, rfl⟩
          rw [hq] at hs1 hs2 L1
          simp only [hq] at CDC
          dsimp only at hs1 hs2 L1 CDC
          obtain ⟨U, hU⟩ : ∃ U, Y.setCell ⟨wr.heap.size, 1, none⟩ (.int .i64 tx) = U := ⟨_, rfl⟩
          rw [hU] at rY2
          have HU := Lib.hid hU
          have gU : Below wr.heap.size wr U := by rw [← hU]; exact gY.setCell (by exact Nat.le_refl _) _
          have DU := Lib.hid (HD.out.below gU)
          have LL := Lib.hid L1
          have AA := Lib.hid hs2
          clear hU
          go_upto_region 18 with fail
          rw [HU.out]
          obtain ⟨u0, u1, u2, u3, u4, u5⟩ := YK.out U _ _ _ _ _ _ rY2
          clear y0 y1 y2 y3 y4 y5 y1f rY rY2 gY gU L1 hs2 hd0
          go_upto_region 19 with (go_at_call 22; go_loud (refine (CDC.out _ _ _ DU.out).mono ?_; rintro e w8 ⟨rfl, d8⟩; have D8 := Lib.hid d8; clear d8))
          clear u0 u1 u2 u3 u4 u5
          rcases hs1 with rfl | rfl
          · go_wp2
            go_roundw
            case rel => exact ⟨j + 1, X1, gs1, tx, by go_num, rfl, HLT.out, HTX.out, D8.out, by have := LL.out; rw [show 2 * ((j + 1 : Nat) : Int) = 2 * (j : Int) + 2 by omega]; exact this, AA.out⟩
            case measure => have := HLT.out; simp [intOf]; omega
          · go_wp2
            go_roundw
            case rel => exact ⟨j + 1, X1, gs1, tx, by go_num, rfl, HLT.out, HTX.out, D8.out, by have := LL.out; rw [show 2 * ((j + 1 : Nat) : Int) = 2 * (j : Int) + 2 by omega]; exact this, AA.out⟩
            case measure => have := HLT.out; simp [intOf]; omega
      · obtain rfl : j = n1 := by omega
        have i1 : ¬ (j : Int) < (j : Int) := by omega
        obtain ⟨G5, K5, V5, ms5, D5, hms5⟩ := hD
        have DU := Lib.hid (show DoIs (AllOf G5 K5 p V5 ms5) wr w2 p2 b2 (rowsP z1) cp ⟨new10 0, [], []⟩ wr from ⟨G2, K2, V2, [], D5.swap B3.out.size M4.out D4.out G4.out.1 G4.out.2, rfl⟩)
        have D5H := Lib.hid D5
        have HM5 := Lib.hid hms5
        have LX := Lib.hid hL
        have HBR := Lib.hid (below_next B2.out D5.z)
        clear hj hlt hL hA D5 hms5 htx
        go_upto_region 23 with fail
        go_loopw [97] (fun i wq => ∃ (k : Nat) (Y : Pl10), i = .int .i64 (k : Nat) ∧ k ≤ j ∧ DoIs (AllOf G5 K5 p V5 ms5) wr w2 p2 b2 (rowsP z1) cp Y wq ∧ Lp10 R k k k cp Y Y.rs (k : Int) ∧ Nr10 Y.S) (fun i _ => j - (intOf i).toNat)
        case atStart => exact ⟨0, _, rfl, Nat.zero_le _, DU.out, LN.out, Nr10.new 0⟩
        case round =>
          rename World => wq
          obtain ⟨k, Y, rfl, hk, hD, hL, hA⟩ := hrel
          by_cases hlt : k < j
          · obtain ⟨x, hx⟩ : ∃ x, z1[k]? = some x := ⟨_, List.getElem?_eq_getElem (by have := H2.out.len; omega)⟩
            have HO := Lib.hid (H2.out.is x (List.mem_of_getElem? hx))
            obtain ⟨ab', ao', hab, q0, q1, q2, q3, q4, q5⟩ := (H2.out.below hD.bel).at_ hx
            obtain ⟨xd, xt, ⟨tb, ky⟩, to_, xl⟩ := x
            dsimp only at q0 q1 q2 q3 q4 q5
            obtain ⟨U, hU⟩ : ∃ U, wq.alloc (.cells #[.int .i64 xd, .int .i64 xt, .string tb, .string ky, .string to_, .int .i64 xl] 44) = U := ⟨_, rfl⟩
            have HU := Lib.hid hU
            have gU : Below wq.heap.size wq U := by rw [← hU]; exact alloc_below10 _ _
            have rU : U.heap[wq.heap.size]? = some (.cells #[.int .i64 xd, .int .i64 xt, .string tb, .string ky, .string to_, .int .i64 xl] 44 (0, 0)) := by rw [← hU]; exact heap_alloc_new _ _
            have y0 : U.cell? ⟨wq.heap.size, 0, none⟩ = some (.int .i64 xd) := cell_of_row _ _ 0 _ _ _ rU
            have y1 : U.cell? ⟨wq.heap.size, 1, none⟩ = some (.int .i64 xt) := cell_of_row _ _ 1 _ _ _ rU
            have y2 : U.cell? ⟨wq.heap.size, 2, none⟩ = some (.string tb) := cell_of_row _ _ 2 _ _ _ rU
            have y3 : U.cell? ⟨wq.heap.size, 3, none⟩ = some (.string ky) := cell_of_row _ _ 3 _ _ _ rU
            have y4 : U.cell? ⟨wq.heap.size, 4, none⟩ = some (.string to_) := cell_of_row _ _ 4 _ _ _ rU
            have y5 : U.cell? ⟨wq.heap.size, 5, none⟩ = some (.int .i64 xl) := cell_of_row _ _ 5 _ _ _ rU
            have i2 : (k : Int) < (j : Int) := by omega
            have l2 : (k : Int) ≤ 1048576 := by have := HN.out; omega
            have HLT := Lib.hid hlt
            have DY := Lib.hid (hD.below gU)
            have HL := Lib.hid hL
            have HA := Lib.hid hA
            have SKP := Lib.hid (show Lp10 R (k + 1) (k + 1) (k + 1) cp Y Y.rs ((k : Int) + 1) from hL.tick.mono (Nat.le_succ _) (Nat.le_succ _) (Nat.le_succ _))
            rw [hab]
            clear hk hlt hx hD hL hA hU gU rU
            go_upto_region 25 with fail
            rw [HU.out]
            clear q0 q1 q2 q3 q4 q5 hab
            by_cases h1 : xd = 1
            · subst h1
              go_wp2
              go_roundw
              case rel => exact ⟨k + 1, Y, by go_num, HLT.out, DY.out, SKP.out, HA.out⟩
              case measure => have := HLT.out; simp [intOf]; omega
            have h1' : (xd != 1) = true := by simpa using h1
            by_cases h2 : xd = 2
            · subst h2
              go_wp2
              go_roundw
              case rel => exact ⟨k + 1, Y, by go_num, HLT.out, DY.out, SKP.out, HA.out⟩
              case measure => have := HLT.out; simp [intOf]; omega
            have h2' : (xd != 2) = true := by simpa using h2
            obtain ⟨k1, k2, k3⟩ := HA.out.step (o := ⟨xd, xt, (tb, ky), to_, xl⟩) (rows := rowsP z1) HL.out (by omega) (by have := HN.out; omega) HR.out.1 HRL.out h1 h2
            have CD := Lib.hid (wDo DY.out HL.out (by omega) (by have := HN.out; omega) (by have := HN.out; omega) (by have := HN.out; omega) (by have := HN.out; omega) HR.out.2 HRL.out ⟨xd, xt, (tb, ky), to_, xl⟩ HO.out k)
            obtain ⟨⟨er, Y1⟩, hq⟩ : ∃ q, doP cp (rowsP z1) Y ⟨xd, xt, (tb, ky), to_, xl⟩ (k : Int) = q := ⟨_, rfl⟩
            rw [hq] at k1 k2 k3 CD
            dsimp only at k1 k2 k3 CD
            have k1' : (er == 100) = false := by simpa using k1
            have K2 := Lib.hid k2
            have K3 := Lib.hid k3
            clear h1 h2 k2 k3 hq
            go_wp2_with (go_at_call 22; go_loud (refine CD.out.mono ?_; rintro e w5 ⟨rfl, d5⟩; have D6 := Lib.hid d5; clear d5))
            go_roundw
            case rel => exact ⟨k + 1, Y1, by go_num, HLT.out, D6.out, K3.out, K2.out⟩
            case measure => have := HLT.out; simp [intOf]; omega
          · obtain rfl : k = j := by omega
            have i2 : ¬ (k : Int) < (k : Int) := by omega
            have hb3 : R ≤ 1048576 := HR.out.2
            have hb1 : k ≤ 1048576 := HN.out
            have HDU := Lib.hid hD
            have HDW := Lib.hid (show DoIs (fun _ => False) w2 w2 p b (rowsP z1) cp X wq from ⟨G5, K5, V5, ms5, D5H.out.back hD.out hD.bel, HM5.out⟩)
            obtain ⟨A2, c2, A3, c3, p0, p2', p3, p4⟩ := HDW.out.cells
            obtain ⟨A4, c4, A5, c5, u0, u2', u3, u4⟩ := hD.cells
            have CEW := Lib.hid (fun W (D : DoIs (fun _ => False) w2 w2 p b (rowsP z1) cp X W) => D.deps LX.out hb1 hb1 hb1 hb3)
            have COW := Lib.hid (fun (W : World) A cc (h : SB W A (2 * (depsP X.vs X.rs).length) (cellsF depC (depsP X.vs X.rs))) => LX.out.ordered (cc := cc) hb1 hb1 hb1 hb3 h)
            have CEU := Lib.hid (fun W (D : DoIs (AllOf G5 K5 p V5 ms5) wr w2 p2 b2 (rowsP z1) cp Y W) => D.deps hL hb1 hb1 hb1 hb3)
            have COU := Lib.hid (fun (W : World) A cc (h : SB W A (2 * (depsP Y.vs Y.rs).length) (cellsF depC (depsP Y.vs Y.rs))) => hL.ordered (cc := cc) hb1 hb1 hb1 hb3 h)
            obtain ⟨DW, hDW⟩ : ∃ D, depsP X.vs X.rs = D := ⟨_, rfl⟩
            obtain ⟨DV, hDV⟩ : ∃ D, depsP Y.vs Y.rs = D := ⟨_, rfl⟩
            rw [hDW] at CEW COW
            rw [hDV] at CEU COU
            have S0 : wq.cell? ⟨p, 3, none⟩ = some (.slice A3 X.rs.length c3) ∧ wq.cell? ⟨p, 4, none⟩ = some (.bool false) ∧ wq.cell? ⟨p2, 3, none⟩ = some (.slice A5 Y.rs.length c5) ∧ wq.cell? ⟨p2, 4, none⟩ = some (.bool false) := ⟨p3, p4, u3, u4⟩
            have SK := Lib.hid (fun V (g : Below wq.heap.size wq V) => (⟨keep_below S0.1 g, keep_below S0.2.1 g, keep_below S0.2.2.1 g, keep_below S0.2.2.2 g⟩ : V.cell? ⟨p, 3, none⟩ = some (.slice A3 X.rs.length c3) ∧ V.cell? ⟨p, 4, none⟩ = some (.bool false) ∧ V.cell? ⟨p2, 3, none⟩ = some (.slice A5 Y.rs.length c5) ∧ V.cell? ⟨p2, 4, none⟩ = some (.bool false)))
            have HBQ := Lib.hid (below_next B2.out hD.bel)
            clear hk hlt hD hL hA p0 p2' p3 p4 u0 u2' u3 u4 hb3 hb1 hDW hDV
            go_upto_region 28 with fail
            go_region_held3 (fun w' => w'.cell? ⟨p, 3, none⟩ = some (.slice A3 X.rs.length c3) ∧ w'.cell? ⟨p, 4, none⟩ = some (.bool false) ∧ w'.cell? ⟨p2, 3, none⟩ = some (.slice A5 Y.rs.length c5) ∧ w'.cell? ⟨p2, 4, none⟩ = some (.bool false))
              (first | exact S0 | exact SA | exact SB' | exact SC | exact SD)
              (first
                | (go_at_call 23; refine (COU.out _ _ _ S8.out).mono ?_; rintro e w9 ⟨rfl, b9⟩; have B9 := Lib.hid (below_next B8.out b9); have SD := SK.out w9 B9.out; clear b9)
                | (go_at_call 24; refine (CEU.out _ (HDU.out.below B7.out)).mono ?_; rintro e w8 ⟨v8, rfl, s8, b8⟩; have B8 := Lib.hid (below_next B7.out b8); have SC := SK.out w8 B8.out; obtain ⟨A8, c8, rfl, S8', -⟩ := s8.form; have S8 := Lib.hid (show SB w8 A8 (2 * DV.length) (cellsF depC DV) from S8'); clear b8 s8 S8')
                | (go_at_call 23; refine (COW.out _ _ _ S6.out).mono ?_; rintro e w7 ⟨rfl, b7⟩; have B7 := Lib.hid (below_next B6.out b7); have SB' := SK.out w7 B7.out; clear b7)
                | (go_at_call 24; refine (CEW.out _ (HDW.out.below (Below.refl _ _).drew)).mono ?_; rintro e w6 ⟨v6, rfl, s6, b6⟩; have B6 := Lib.hid (below_next (Below.refl wq.heap.size wq).drew b6); have SA := SK.out w6 B6.out; obtain ⟨A6, c6, rfl, S6', -⟩ := s6.form; have S6 := Lib.hid (show SB w6 A6 (2 * DW.length) (cellsF depC DW) from S6'); clear b6 s6 S6'))
            all_goals
              go_wp2
              go_ret
              exact ⟨rfl, below_next HBQ.out B9.out⟩
end Go.Proofs.YtknppiebncdjmaaGreat
