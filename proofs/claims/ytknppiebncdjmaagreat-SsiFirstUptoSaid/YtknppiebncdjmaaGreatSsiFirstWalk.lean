/- The walk of SsiFirst: no two concurrent ones that commit have written one row. -/
import Derived.Test.YtknppiebncdjmaaGreatSsLst
import Derived.Test.YtknppiebncdjmaaGreatJBO
set_option linter.unusedVariables false
namespace Go.Proofs.YtknppiebncdjmaaGreat
set_option maxRecDepth 100000
open Go.RowKit

set_option maxHeartbeats 16000000 in
theorem walk_SsiFirst (a0_0 a0_1 a0_2 a0_3 : Int) (A1 : Option Addr) (n1 c1 : Nat) (z1 : List OpX) (w : World) (_ha0_0 : -9223372036854775808 ≤ a0_0 ∧ a0_0 ≤ 9223372036854775807) (_ha0_1 : -9223372036854775808 ≤ a0_1 ∧ a0_1 ≤ 9223372036854775807) (_ha0_2 : -9223372036854775808 ≤ a0_2 ∧ a0_2 ≤ 9223372036854775807) (_ha0_3 : -9223372036854775808 ≤ a0_3 ∧ a0_3 ≤ 9223372036854775807) (h1 : RX w A1 n1 z1) (hn1 : n1 ≤ c1) (hc1 : c1 ≤ 1048576) :
    Calls Tryz.prog 5 #[.agg #[.int .i64 a0_0, .int .i64 a0_1, .int .i64 a0_2, .int .i64 a0_3], .slice A1 n1 c1] w fun e w' => e = .returned (.bool true) ∧ Below w.heap.size w w' := by
  clear _ha0_0 _ha0_1 _ha0_2 _ha0_3
  have hn : n1 ≤ 1048576 := Nat.le_trans hn1 hc1
  have CB := Lib.hid (fun W => wbegun10 W)
  obtain ⟨W, hW⟩ : ∃ W, w.alloc (.cells #[.int .i64 a0_0, .int .i64 a0_1, .int .i64 a0_2, .int .i64 a0_3] 23) = W := ⟨_, rfl⟩
  have HW := Lib.hid hW
  have hB : Below w.heap.size w W := by rw [← hW]; exact (Below.refl _ _).alloc (Nat.le_refl _) _
  have q0 : W.heap[w.heap.size]? = some (.cells #[.int .i64 a0_0, .int .i64 a0_1, .int .i64 a0_2, .int .i64 a0_3] 23 (0, 0)) := by rw [← hW]; exact heap_alloc_new _ _
  have x0 : W.cell? ⟨w.heap.size, 0, none⟩ = some (.int .i64 a0_0) := cell_of_row _ _ 0 _ _ _ q0
  have x1 : W.cell? ⟨w.heap.size, 1, none⟩ = some (.int .i64 a0_1) := cell_of_row _ _ 1 _ _ _ q0
  have x2 : W.cell? ⟨w.heap.size, 2, none⟩ = some (.int .i64 a0_2) := cell_of_row _ _ 2 _ _ _ q0
  have x3 : W.cell? ⟨w.heap.size, 3, none⟩ = some (.int .i64 a0_3) := cell_of_row _ _ 3 _ _ _ q0
  have HB := Lib.hid hB
  have H1 := Lib.hid (h1.below hB)
  have HN := Lib.hid hn
  clear hW hB q0 h1 hn hn1 hc1
  by_cases hok : capOk a0_0 a0_1 a0_2 a0_3
  rotate_left
  · have CN := Lib.hid (fun W => wStart_no W (A := A1) (n := n1) (c := c1) hok)
    have CM := Lib.hid (fun W => wMay_no W hok)
    clear hok
    go_enter Tryz.func5, Tryz.ntmps5
    go_upto_region 1 with fail
    rw [HW.out]
    go_wp2_with (first
      | (go_at_call 13; go_loud (refine (CB.out _).mono ?_; rintro e w2 ⟨rfl, b2⟩; have B2 := Lib.hid (below_next HB.out b2); replace x0 := keep_below x0 b2; replace x1 := keep_below x1 b2; replace x2 := keep_below x2 b2; replace x3 := keep_below x3 b2; clear b2))
      | (go_at_call 20; go_loud (refine (CN.out _).mono ?_; rintro e w3 ⟨rfl, b3⟩; have B3 := Lib.hid (below_next B2.out b3); replace x0 := keep_below x0 b3; replace x1 := keep_below x1 b3; replace x2 := keep_below x2 b3; replace x3 := keep_below x3 b3; clear b3))
      | (go_at_call 21; go_loud (refine (CM.out _).mono ?_; rintro e w4 ⟨rfl, b4⟩; have B4 := Lib.hid (below_next B3.out b4); clear b4)))
    go_ret
    exact ⟨rfl, B4.out⟩
  · obtain ⟨rn, rfl⟩ := Int.eq_ofNat_of_zero_le (show 0 ≤ a0_2 by have := hok.2.2.1.1; omega)
    have hr1 : 1 ≤ rn := by have := hok.2.2.1.1; omega
    have CN := Lib.hid (fun W (h : RX W A1 n1 z1) => wStart W (c := c1) hok h HN.out)
    have LN := Lib.hid (Lp10.new (c := ⟨a0_0, a0_1, rn, a0_3⟩) hr1 (max 1 n1) 0 0 0)
    obtain ⟨cp, hcp⟩ : ∃ cp : Cp10, (⟨a0_0, a0_1, rn, a0_3⟩ : Cp10) = cp := ⟨_, rfl⟩
    rw [hcp] at LN CN
    have HRL := Lib.hid (show (rowsP z1).length ≤ max 1 n1 by have := rows_len z1; have := H1.out.len; omega)
    have HR := Lib.hid (show 1 ≤ max 1 n1 ∧ max 1 n1 ≤ 1048576 by have := HN.out; omega)
    clear hok hcp hr1
    go_enter Tryz.func5, Tryz.ntmps5
    go_upto_region 1 with fail
    rw [HW.out]
    go_upto_region 4 with (first
      | (go_at_call 13; go_loud (refine (CB.out _).mono ?_; rintro e w2 ⟨rfl, b2⟩; have B2 := Lib.hid (below_next HB.out b2); have H2 := Lib.hid (H1.out.below b2); replace x0 := keep_below x0 b2; replace x1 := keep_below x1 b2; replace x2 := keep_below x2 b2; replace x3 := keep_below x3 b2; clear b2))
      | (go_at_call 20; go_loud (refine (CN.out _ H2.out).mono ?_; rintro e w3 ⟨p, b, G, K, V, rfl, m3, d3, g3, k3, b3⟩; have D3 := Lib.hid (DoIs.new m3 d3 g3 k3 b3); clear m3 d3 g3 k3 b3)))
    clear x0 x1 x2 x3
    obtain ⟨R, hR⟩ : ∃ R, max 1 n1 = R := ⟨_, rfl⟩
    rw [hR] at LN HRL HR
    go_upto_region 7 with fail
    go_loopw [30] (fun i wr => ∃ (j : Nat) (X : Pl10), i = .int .i64 (j : Nat) ∧ j ≤ n1 ∧ DoIs (fun _ => False) w3 w2 p b (rowsP z1) cp X wr ∧ Lp10 R j j j cp X X.rs (j : Int)) (fun i _ => n1 - (intOf i).toNat)
    case atStart => exact ⟨0, _, rfl, Nat.zero_le _, D3.out, LN.out⟩
    case round =>
      rename World => wr
      obtain ⟨j, X, rfl, hj, hD, hL⟩ := hrel
      by_cases hlt : j < n1
      · obtain ⟨x, hx⟩ : ∃ x, z1[j]? = some x := ⟨_, List.getElem?_eq_getElem (by have := H2.out.len; omega)⟩
        have HO := Lib.hid (H2.out.is x (List.mem_of_getElem? hx))
        obtain ⟨ab, ao, rfl, q0, q1, q2, q3, q4, q5⟩ := (H2.out.below hD.bel).at_ hx
        have HL := Lib.hid (hL.own (rows := rowsP z1) (o := x) (by omega) (by have := HN.out; omega) HR.out.1 HRL.out)
        have CD := Lib.hid (fun W (D : DoIs (fun _ => False) w3 w2 p b (rowsP z1) cp X W) => wDo D hL (by omega) (by have := HN.out; omega) (by have := HN.out; omega) (by have := HN.out; omega) (by have := HN.out; omega) HR.out.2 HRL.out x HO.out j)
        obtain ⟨xd, xt, ⟨tb, ky⟩, to_, xl⟩ := x
        dsimp only at q0 q1 q2 q3 q4 q5 CD
        obtain ⟨Y, hY⟩ : ∃ Y, wr.alloc (.cells #[.int .i64 xd, .int .i64 xt, .string tb, .string ky, .string to_, .int .i64 xl] 44) = Y := ⟨_, rfl⟩
        have HY := Lib.hid hY
        have gY : Below wr.heap.size wr Y := by rw [← hY]; exact alloc_below10 _ _
        have rY : Y.heap[wr.heap.size]? = some (.cells #[.int .i64 xd, .int .i64 xt, .string tb, .string ky, .string to_, .int .i64 xl] 44 (0, 0)) := by rw [← hY]; exact heap_alloc_new _ _
        have y0 : Y.cell? ⟨wr.heap.size, 0, none⟩ = some (.int .i64 xd) := cell_of_row _ _ 0 _ _ _ rY
        have y1 : Y.cell? ⟨wr.heap.size, 1, none⟩ = some (.int .i64 xt) := cell_of_row _ _ 1 _ _ _ rY
        have y2 : Y.cell? ⟨wr.heap.size, 2, none⟩ = some (.string tb) := cell_of_row _ _ 2 _ _ _ rY
        have y3 : Y.cell? ⟨wr.heap.size, 3, none⟩ = some (.string ky) := cell_of_row _ _ 3 _ _ _ rY
        have y4 : Y.cell? ⟨wr.heap.size, 4, none⟩ = some (.string to_) := cell_of_row _ _ 4 _ _ _ rY
        have y5 : Y.cell? ⟨wr.heap.size, 5, none⟩ = some (.int .i64 xl) := cell_of_row _ _ 5 _ _ _ rY
        have DY := Lib.hid (hD.below gY)
        have i1 : (j : Int) < (n1 : Int) := by omega
        have l1 : (j : Int) ≤ 1048576 := by have := HN.out; omega
        have HLT := Lib.hid hlt
        clear hj hlt hx gY rY hY hD hL
        go_upto_region 9 with fail
        rw [HY.out]
        clear q0 q1 q2 q3 q4 q5
        go_wp2_with (go_at_call 22; go_loud (refine (CD.out _ DY.out).mono ?_; rintro e w4 ⟨rfl, d4⟩; have D4 := Lib.hid d4; clear d4))
        go_roundw
        case rel => exact ⟨j + 1, _, by go_num, HLT.out, D4.out, HL.out⟩
        case measure => have := HLT.out; simp [intOf]; omega
      · obtain rfl : j = n1 := by omega
        have i1 : ¬ (j : Int) < (j : Int) := by omega
        obtain ⟨A3, c3, ms, hl, hms⟩ := hD.lst
        obtain ⟨-, -, -, -, -, -, -, p4⟩ := hD.cells
        have p3 := hl.cell
        have LST := Lib.hid hl
        have P34 := Lib.hid (fun W (g : Below wr.heap.size wr W) => And.intro (keep_below p3 g) (keep_below p4 g))
        have FN := Lib.hid (fun i k x y => first_not10 (i := i) (k := k) (x := x) (y := y) hL hms)
        have HML := Lib.hid (show ms.length ≤ 1048576 by
          have h1 := hL.cnt.n
          have h2 := HN.out
          rw [← hms, List.length_map] at h1
          omega)
        have HWL := Lib.hid (fun (m : RunM) (hm : m ∈ ms) => show m.r.writes.length ≤ 1048576 by
          have h1 := hL.cnt.w m.r (by rw [← hms]; exact List.mem_map.2 ⟨m, hm, rfl⟩)
          have h2 := HN.out
          omega)
        have HBR := Lib.hid (below_next B2.out hD.bel)
        clear hj hlt hD hL hl hms p4
        go_upto_region 12 with fail
        clear p3
        go_loopw [45] (fun i wq => ∃ ii : Nat, i = .int .i64 (ii : Nat) ∧ ii ≤ ms.length ∧ Below wr.heap.size wr wq) (fun i _ => ms.length - (intOf i).toNat)
        case atStart => exact ⟨0, rfl, Nat.zero_le _, Below.refl _ _⟩
        case round =>
          rename World => wq
          obtain ⟨ii, rfl, hii, hbq⟩ := hrel
          by_cases hil : ii < ms.length
          · obtain ⟨x, hx⟩ : ∃ x, ms[ii]? = some x := ⟨_, List.getElem?_eq_getElem hil⟩
            obtain ⟨g, o, rfl, q0, q1, q2, q3, q4, q5, q6, q7⟩ := (LST.out.gw hbq).at_ hx
            obtain ⟨Y, hY⟩ : ∃ Y, wq.alloc (.cells #[.int .i64 x.r.tx, .int .i64 x.r.snap, .int .i64 x.r.begun, .int .i64 x.r.ended, .bool x.r.com, .bool x.r.over, .slice x.ra x.r.reads.length x.rc, .slice x.wa x.r.writes.length x.wc] 70) = Y := ⟨_, rfl⟩
            have HY := Lib.hid hY
            obtain ⟨gY, -, a2, a3, a4, -, a7⟩ := run_row x Y hY
            have SX := Lib.hid (LST.out.wr x (List.mem_of_getElem? hx))
            have HXW := Lib.hid (HWL.out x (List.mem_of_getElem? hx))
            have FX := Lib.hid (fun k y => FN.out ii k x y hx)
            obtain ⟨⟨xtx, xsn, xbg, xen, xco, xov, xrd, xwr⟩, xra, xrc, xwa, xwc⟩ := x
            dsimp only at q0 q1 q2 q3 q4 q5 q6 q7 a2 a3 a4 a7 HY SX HXW FX
            have SKY := Lib.hid (fun W (gb : Below Y.heap.size Y W) => And.intro (keep_below a2 gb) (And.intro (keep_below a3 gb) (And.intro (keep_below a4 gb) (keep_below a7 gb))))
            have HBY := Lib.hid (below_next hbq gY)
            obtain ⟨p3, -⟩ := P34.out Y HBY.out
            have i2 : (ii : Int) < (ms.length : Int) := by omega
            have l2 : (ii : Int) ≤ 1048576 := by have := HML.out; omega
            have HIL := Lib.hid hil
            clear hii hil hx hY gY hbq a2 a3 a4 a7
            go_upto_region 14 with fail
            rw [HY.out]
            clear q0 q1 q2 q3 q4 q5 q6 q7
            go_upto_region 15 with fail
            clear p3
            go_loopw [55] (fun i wz => ∃ kk : Nat, i = .int .i64 (kk : Nat) ∧ kk ≤ ms.length ∧ Below Y.heap.size Y wz) (fun i _ => ms.length - (intOf i).toNat)
            case atStart => exact ⟨0, rfl, Nat.zero_le _, Below.refl _ _⟩
            case round =>
              rename World => wz
              obtain ⟨kk, rfl, hkk, hbz⟩ := hrel
              by_cases hkl : kk < ms.length
              · obtain ⟨y, hy⟩ : ∃ y, ms[kk]? = some y := ⟨_, List.getElem?_eq_getElem hkl⟩
                have HBZ0 := Lib.hid (below_next HBY.out hbz)
                obtain ⟨g', o', hgo, q0, q1, q2, q3, q4, q5, q6, q7⟩ := (LST.out.gw HBZ0.out).at_ hy
                simp only [Option.some.injEq, Addr.mk.injEq, and_true] at hgo
                obtain ⟨rfl, rfl⟩ := hgo
                obtain ⟨Z, hZ⟩ : ∃ Z, wz.alloc (.cells #[.int .i64 y.r.tx, .int .i64 y.r.snap, .int .i64 y.r.begun, .int .i64 y.r.ended, .bool y.r.com, .bool y.r.over, .slice y.ra y.r.reads.length y.rc, .slice y.wa y.r.writes.length y.wc] 70) = Z := ⟨_, rfl⟩
                have HZ := Lib.hid hZ
                obtain ⟨gZ, -, b2, b3, b4, -, b7⟩ := run_row y Z hZ
                have SY := Lib.hid (LST.out.wr y (List.mem_of_getElem? hy))
                have HYW := Lib.hid (HWL.out y (List.mem_of_getElem? hy))
                have FXY := Lib.hid (FX.out kk y hy)
                obtain ⟨⟨ytx, ysn, ybg, yen, yco, yov, yrd, ywr⟩, yra, yrc, ywa, ywc⟩ := y
                dsimp only at q0 q1 q2 q3 q4 q5 q6 q7 b2 b3 b4 b7 HZ SY HYW FXY
                have HBZ := Lib.hid (below_next hbz gZ)
                obtain ⟨a2, a3, a4, a7⟩ := SKY.out Z HBZ.out
                have i3 : (kk : Int) < (ms.length : Int) := by omega
                have l3 : (kk : Int) ≤ 1048576 := by have := HML.out; omega
                have HKL := Lib.hid hkl
                clear hkk hkl hy hZ gZ hbz
                go_upto_region 17 with fail
                rw [HZ.out]
                clear q0 q1 q2 q3 q4 q5 q6 q7
                by_cases g1 : (kk : Int) ≤ (ii : Int)
                · go_wp2
                  go_roundw
                  case rel => exact ⟨kk + 1, by go_num, HKL.out, HBZ.out⟩
                  case measure => have := HKL.out; simp [intOf]; omega
                cases xco
                · go_wp2
                  go_roundw
                  case rel => exact ⟨kk + 1, by go_num, HKL.out, HBZ.out⟩
                  case measure => have := HKL.out; simp [intOf]; omega
                cases yco
                · go_wp2
                  go_roundw
                  case rel => exact ⟨kk + 1, by go_num, HKL.out, HBZ.out⟩
                  case measure => have := HKL.out; simp [intOf]; omega
                by_cases g2 : ybg > xen
                · go_wp2
                  go_roundw
                  case rel => exact ⟨kk + 1, by go_num, HKL.out, HBZ.out⟩
                  case measure => have := HKL.out; simp [intOf]; omega
                by_cases g3 : xbg > yen
                · go_wp2
                  go_roundw
                  case rel => exact ⟨kk + 1, by go_num, HKL.out, HBZ.out⟩
                  case measure => have := HKL.out; simp [intOf]; omega
                have HNO := Lib.hid (FXY.out (by omega) rfl rfl (by omega) (by omega))
                have B7 := Lib.hid (fun W (gb : Below Z.heap.size Z W) => keep_below b7 gb)
                go_upto_region 19 with fail
                clear a2 a3 a4 a7 b2 b3 b4 b7
                go_loopw [90] (fun i wy => ∃ jj : Nat, i = .int .i64 (jj : Nat) ∧ jj ≤ xwr.length ∧ Below Z.heap.size Z wy) (fun i _ => xwr.length - (intOf i).toNat)
                case atStart => exact ⟨0, rfl, Nat.zero_le _, Below.refl _ _⟩
                case round =>
                  rename World => wy
                  obtain ⟨jj, rfl, hjj, hby⟩ := hrel
                  by_cases hjl : jj < xwr.length
                  · obtain ⟨l, hl⟩ : ∃ l, xwr[jj]? = some l := ⟨_, List.getElem?_eq_getElem hjl⟩
                    have HBY0 := Lib.hid (below_next (below_next HBY.out HBZ.out) hby)
                    obtain ⟨g9, o9, rfl, hc⟩ := (SX.out.gw HBY0.out).el lkC_len (by omega) hl
                    have c0 : wy.cell? ⟨g9, o9 + jj * 2, none⟩ = some (.string l.1) := hc 0 _ rfl
                    have c1 : wy.cell? ⟨g9, o9 + jj * 2 + 1, none⟩ = some (.string l.2) := hc 1 _ rfl
                    have hno := HNO.out l (List.mem_of_getElem? hl)
                    obtain ⟨l1, l2'⟩ := l
                    dsimp only at c0 c1
                    obtain ⟨U, hU⟩ : ∃ U, wy.alloc (.cells #[.string l1, .string l2'] 42) = U := ⟨_, rfl⟩
                    have HU := Lib.hid hU
                    have gU : Below wy.heap.size wy U := by rw [← hU]; exact alloc_below10 _ _
                    have rU : U.heap[wy.heap.size]? = some (.cells #[.string l1, .string l2'] 42 (0, 0)) := by rw [← hU]; exact heap_alloc_new _ _
                    have u0 : U.cell? ⟨wy.heap.size, 0, none⟩ = some (.string l1) := cell_of_row _ _ 0 _ _ _ rU
                    have u1 : U.cell? ⟨wy.heap.size, 1, none⟩ = some (.string l2') := cell_of_row _ _ 1 _ _ _ rU
                    have HBU := Lib.hid (below_next hby gU)
                    have b7 := B7.out U HBU.out
                    have CH := Lib.hid (wHas10 (c := ywc) (SY.out.gw (below_next HBY0.out gU)) (by have := HYW.out; omega) (l1, l2'))
                    rw [hno] at CH
                    dsimp only at CH
                    have i4 : (jj : Int) < (xwr.length : Int) := by omega
                    have l4 : (jj : Int) ≤ 1048576 := by have := HXW.out; omega
                    have HJL := Lib.hid hjl
                    clear hjj hjl hl hc hU gU rU hby hno
                    go_upto_region 21 with fail
                    rw [HU.out]
                    clear c0 c1
                    go_wp2_with (go_at_call 25; go_loud (refine CH.out.mono ?_; rintro e w6 ⟨rfl, b6⟩; have B6 := Lib.hid (below_next HBU.out b6); clear b6))
                    go_roundw
                    case rel => exact ⟨jj + 1, by go_num, HJL.out, B6.out⟩
                    case measure => have := HJL.out; simp [intOf]; omega
                  · obtain rfl : jj = xwr.length := by omega
                    have i4 : ¬ (xwr.length : Int) < (xwr.length : Int) := by omega
                    have HB7 := Lib.hid (below_next HBZ.out hby)
                    clear hjj hjl hby
                    go_wp2
                    go_roundw
                    case rel => exact ⟨kk + 1, by go_num, HKL.out, HB7.out⟩
                    case measure => have := HKL.out; simp [intOf]; omega
              · obtain rfl : kk = ms.length := by omega
                have i3 : ¬ (ms.length : Int) < (ms.length : Int) := by omega
                have HB8 := Lib.hid (below_next HBY.out hbz)
                clear hkk hkl hbz
                go_wp2
                go_roundw
                case rel => exact ⟨ii + 1, by go_num, HIL.out, HB8.out⟩
                case measure => have := HIL.out; simp [intOf]; omega
          · obtain rfl : ii = ms.length := by omega
            have i2 : ¬ (ms.length : Int) < (ms.length : Int) := by omega
            obtain ⟨-, p4⟩ := P34.out wq hbq
            have HB9 := Lib.hid hbq
            clear hii hil hbq
            go_wp2
            go_ret
            exact ⟨rfl, below_next HBR.out HB9.out⟩
end Go.Proofs.YtknppiebncdjmaaGreat
