/- The walk of SsiSerial: whatever is done, those that commit have a serial order. -/
import Derived.Test.YtknppiebncdjmaaGreatJBN
import Derived.Test.YtknppiebncdjmaaGreatJBO
set_option linter.unusedVariables false
namespace Go.Proofs.YtknppiebncdjmaaGreat
set_option maxRecDepth 100000
open Go.RowKit

set_option maxHeartbeats 16000000 in
theorem walk_SsiSerial (a0_0 a0_1 a0_2 a0_3 : Int) (A1 : Option Addr) (n1 c1 : Nat) (z1 : List OpX) (w : World) (_ha0_0 : -9223372036854775808 ≤ a0_0 ∧ a0_0 ≤ 9223372036854775807) (_ha0_1 : -9223372036854775808 ≤ a0_1 ∧ a0_1 ≤ 9223372036854775807) (_ha0_2 : -9223372036854775808 ≤ a0_2 ∧ a0_2 ≤ 9223372036854775807) (_ha0_3 : -9223372036854775808 ≤ a0_3 ∧ a0_3 ≤ 9223372036854775807) (h1 : RX w A1 n1 z1) (hn1 : n1 ≤ c1) (hc1 : c1 ≤ 1048576) :
    Calls Tryz.prog 4 #[.agg #[.int .i64 a0_0, .int .i64 a0_1, .int .i64 a0_2, .int .i64 a0_3], .slice A1 n1 c1] w fun e w' => e = .returned (.bool true) ∧ Below w.heap.size w w' := by
  clear _ha0_0 _ha0_1 _ha0_2 _ha0_3
  have hn : n1 ≤ 1048576 := Nat.le_trans hn1 hc1
  have CB := Lib.hid (fun W => wbegun10 W)
  obtain ⟨W, hW⟩ : ∃ W, w.alloc (.cells #[.int .i64 a0_0, .int .i64 a0_1, .int .i64 a0_2, .int .i64 a0_3] 23) = W := ⟨_, rfl⟩
  have HW := Lib.hid hW
  have hB : Below w.heap.size w W := by rw [← hW]; exact (Below.refl _ _).alloc (Nat.le_refl _) _
  have q0 : W.heap[w.heap.size]? = some (.cells #[.int .i64 a0_0, .int .i64 a0_1, .int .i64 a0_2, .int .i64 a0_3] 23 (0, 0)) := by rw [← hW]; exact heap_alloc_new _ _
  have x0 : W.cell? ⟨w.heap.size, 0, none⟩ = some (.int .i64 a0_0) := cell_of_row _ _ 0 _ _ _ q0
  have x1 : W.cell? ⟨w.heap.size, 1, none⟩ = some (.int .i64 a0_1) := cell_of_row _ _ 1 _ _ _ q0
  have x2 : W.cell? ⟨w.heap.size, 2, none⟩ = some (.int .i64 a0_2) := cell_of_row _ _ 2 _ _ _ q0
  have x3 : W.cell? ⟨w.heap.size, 3, none⟩ = some (.int .i64 a0_3) := cell_of_row _ _ 3 _ _ _ q0
  have HB := Lib.hid hB
  have H1 := Lib.hid (h1.below hB)
  have HN := Lib.hid hn
  clear hW hB q0 h1 hn hn1 hc1
  by_cases hok : capOk a0_0 a0_1 a0_2 a0_3
  rotate_left
  · have CN := Lib.hid (fun W => wStart_no W (A := A1) (n := n1) (c := c1) hok)
    have CM := Lib.hid (fun W => wMay_no W hok)
    clear hok
    go_enter Tryz.func4, Tryz.ntmps4
    go_upto_region 1 with fail
    rw [HW.out]
    go_wp2_with (first
      | (go_at_call 13; go_loud (refine (CB.out _).mono ?_; rintro e w2 ⟨rfl, b2⟩; have B2 := Lib.hid (below_next HB.out b2); replace x0 := keep_below x0 b2; replace x1 := keep_below x1 b2; replace x2 := keep_below x2 b2; replace x3 := keep_below x3 b2; clear b2))
      | (go_at_call 20; go_loud (refine (CN.out _).mono ?_; rintro e w3 ⟨rfl, b3⟩; have B3 := Lib.hid (below_next B2.out b3); replace x0 := keep_below x0 b3; replace x1 := keep_below x1 b3; replace x2 := keep_below x2 b3; replace x3 := keep_below x3 b3; clear b3))
      | (go_at_call 21; go_loud (refine (CM.out _).mono ?_; rintro e w4 ⟨rfl, b4⟩; have B4 := Lib.hid (below_next B3.out b4); clear b4)))
    go_ret
    exact ⟨rfl, B4.out⟩
  · obtain ⟨rn, rfl⟩ := Int.eq_ofNat_of_zero_le (show 0 ≤ a0_2 by have := hok.2.2.1.1; omega)
    have hr1 : 1 ≤ rn := by have := hok.2.2.1.1; omega
    have CN := Lib.hid (fun W (h : RX W A1 n1 z1) => wStart W (c := c1) hok h HN.out)
    have LN := Lib.hid (Lp10.new (c := ⟨a0_0, a0_1, rn, a0_3⟩) hr1 (max 1 n1) 0 0 0)
    obtain ⟨cp, hcp⟩ : ∃ cp : Cp10, (⟨a0_0, a0_1, rn, a0_3⟩ : Cp10) = cp := ⟨_, rfl⟩
    rw [hcp] at LN CN
    have HRL := Lib.hid (show (rowsP z1).length ≤ max 1 n1 by have := rows_len z1; have := H1.out.len; omega)
    have HR := Lib.hid (show 1 ≤ max 1 n1 ∧ max 1 n1 ≤ 1048576 by have := HN.out; omega)
    clear hok hcp hr1
    go_enter Tryz.func4, Tryz.ntmps4
    go_upto_region 1 with fail
    rw [HW.out]
    go_upto_region 4 with (first
      | (go_at_call 13; go_loud (refine (CB.out _).mono ?_; rintro e w2 ⟨rfl, b2⟩; have B2 := Lib.hid (below_next HB.out b2); have H2 := Lib.hid (H1.out.below b2); replace x0 := keep_below x0 b2; replace x1 := keep_below x1 b2; replace x2 := keep_below x2 b2; replace x3 := keep_below x3 b2; clear b2))
      | (go_at_call 20; go_loud (refine (CN.out _ H2.out).mono ?_; rintro e w3 ⟨p, b, G, K, V, rfl, m3, d3, g3, k3, b3⟩; have D3 := Lib.hid (DoIs.new m3 d3 g3 k3 b3); clear m3 d3 g3 k3 b3)))
    clear x0 x1 x2 x3
    obtain ⟨R, hR⟩ : ∃ R, max 1 n1 = R := ⟨_, rfl⟩
    rw [hR] at LN HRL HR
    go_upto_region 7 with fail
    go_loopw [24] (fun i wr => ∃ (j : Nat) (X : Pl10), i = .int .i64 (j : Nat) ∧ j ≤ n1 ∧ DoIs (fun _ => False) w3 w2 p b (rowsP z1) cp X wr ∧ Lp10 R j j j cp X X.rs (j : Int)) (fun i _ => n1 - (intOf i).toNat)
    case atStart => exact ⟨0, _, rfl, Nat.zero_le _, D3.out, LN.out⟩
    case round =>
      rename World => wr
      obtain ⟨j, X, rfl, hj, hD, hL⟩ := hrel
      by_cases hlt : j < n1
      · obtain ⟨x, hx⟩ : ∃ x, z1[j]? = some x := ⟨_, List.getElem?_eq_getElem (by have := H2.out.len; omega)⟩
        have HO := Lib.hid (H2.out.is x (List.mem_of_getElem? hx))
        obtain ⟨ab, ao, rfl, q0, q1, q2, q3, q4, q5⟩ := (H2.out.below hD.bel).at_ hx
        have HL := Lib.hid (hL.own (rows := rowsP z1) (o := x) (by omega) (by have := HN.out; omega) HR.out.1 HRL.out)
        have CD := Lib.hid (fun W (D : DoIs (fun _ => False) w3 w2 p b (rowsP z1) cp X W) => wDo D hL (by omega) (by have := HN.out; omega) (by have := HN.out; omega) (by have := HN.out; omega) (by have := HN.out; omega) HR.out.2 HRL.out x HO.out j)
        obtain ⟨xd, xt, ⟨tb, ky⟩, to_, xl⟩ := x
        dsimp only at q0 q1 q2 q3 q4 q5 CD
        obtain ⟨Y, hY⟩ : ∃ Y, wr.alloc (.cells #[.int .i64 xd, .int .i64 xt, .string tb, .string ky, .string to_, .int .i64 xl] 44) = Y := ⟨_, rfl⟩
        have HY := Lib.hid hY
        have gY : Below wr.heap.size wr Y := by rw [← hY]; exact alloc_below10 _ _
        have rY : Y.heap[wr.heap.size]? = some (.cells #[.int .i64 xd, .int .i64 xt, .string tb, .string ky, .string to_, .int .i64 xl] 44 (0, 0)) := by rw [← hY]; exact heap_alloc_new _ _
        have y0 : Y.cell? ⟨wr.heap.size, 0, none⟩ = some (.int .i64 xd) := cell_of_row _ _ 0 _ _ _ rY
        have y1 : Y.cell? ⟨wr.heap.size, 1, none⟩ = some (.int .i64 xt) := cell_of_row _ _ 1 _ _ _ rY
        have y2 : Y.cell? ⟨wr.heap.size, 2, none⟩ = some (.string tb) := cell_of_row _ _ 2 _ _ _ rY
        have y3 : Y.cell? ⟨wr.heap.size, 3, none⟩ = some (.string ky) := cell_of_row _ _ 3 _ _ _ rY
        have y4 : Y.cell? ⟨wr.heap.size, 4, none⟩ = some (.string to_) := cell_of_row _ _ 4 _ _ _ rY
        have y5 : Y.cell? ⟨wr.heap.size, 5, none⟩ = some (.int .i64 xl) := cell_of_row _ _ 5 _ _ _ rY
        have DY := Lib.hid (hD.below gY)
        have i1 : (j : Int) < (n1 : Int) := by omega
        have l1 : (j : Int) ≤ 1048576 := by have := HN.out; omega
        have HLT := Lib.hid hlt
        clear hj hlt hx gY rY hY hD hL
        go_upto_region 9 with fail
        rw [HY.out]
        clear q0 q1 q2 q3 q4 q5
        go_wp2_with (go_at_call 22; go_loud (refine (CD.out _ DY.out).mono ?_; rintro e w4 ⟨rfl, d4⟩; have D4 := Lib.hid d4; clear d4))
        go_roundw
        case rel => exact ⟨j + 1, _, by go_num, HLT.out, D4.out, HL.out⟩
        case measure => have := HLT.out; simp [intOf]; omega
      · obtain rfl : j = n1 := by omega
        have i1 : ¬ (j : Int) < (j : Int) := by omega
        obtain ⟨A2, c2, A3, c3, p0, p2, p3, p4⟩ := hD.cells
        have hb3 : R ≤ 1048576 := HR.out.2
        have hb1 : j ≤ 1048576 := HN.out
        have CE := Lib.hid (fun W (D : DoIs (fun _ => False) w3 w2 p b (rowsP z1) cp X W) => D.deps hL hb1 hb1 hb1 hb3)
        have CO := Lib.hid (fun (W : World) A cc (h : SB W A (2 * (depsP X.vs X.rs).length) (cellsF depC (depsP X.vs X.rs))) => hL.ordered (cc := cc) hb1 hb1 hb1 hb3 h)
        have HD := Lib.hid hD
        have HBR := Lib.hid (below_next B2.out hD.bel)
        obtain ⟨D, hDe⟩ : ∃ D, depsP X.vs X.rs = D := ⟨_, rfl⟩
        rw [hDe] at CE CO
        have S0 : wr.cell? ⟨p, 3, none⟩ = some (.slice A3 X.rs.length c3) ∧ wr.cell? ⟨p, 4, none⟩ = some (.bool false) := ⟨p3, p4⟩
        clear hj hlt hD hL p0 p2 p3 p4 hb3 hb1 hDe
        go_upto_region 11 with fail
        go_region_held3 (fun w' => w'.cell? ⟨p, 3, none⟩ = some (.slice A3 X.rs.length c3) ∧ w'.cell? ⟨p, 4, none⟩ = some (.bool false))
          (first | exact S0 | exact SA | exact SB)
          (first
            | (go_at_call 23; go_loud (refine (CO.out _ _ _ S5.out).mono ?_; rintro e w6 ⟨rfl, b6⟩; have SB : w6.cell? ⟨p, 3, none⟩ = some (.slice A3 X.rs.length c3) ∧ w6.cell? ⟨p, 4, none⟩ = some (.bool false) := ⟨keep_below SA.1 b6, keep_below SA.2 b6⟩; have B6 := Lib.hid b6; clear b6))
            | (go_at_call 24; go_loud (refine (CE.out _ (HD.out.below (Below.refl _ _).drew)).mono ?_; rintro e w5 ⟨v5, rfl, s5, b5⟩; have SA : w5.cell? ⟨p, 3, none⟩ = some (.slice A3 X.rs.length c3) ∧ w5.cell? ⟨p, 4, none⟩ = some (.bool false) := ⟨keep_below S0.1 (below_next (Below.refl _ _).drew b5), keep_below S0.2 (below_next (Below.refl _ _).drew b5)⟩; obtain ⟨A5, c5, rfl, S5', -⟩ := s5.form; have S5 := Lib.hid (show SB w5 A5 (2 * D.length) (cellsF depC D) from S5'); have B5 := Lib.hid (below_next (Below.refl _ _).drew b5); clear b5 s5 S5')))
        all_goals
          go_wp2
          go_ret
          exact ⟨rfl, below_next (below_next HBR.out B5.out) B6.out⟩
end Go.Proofs.YtknppiebncdjmaaGreat
