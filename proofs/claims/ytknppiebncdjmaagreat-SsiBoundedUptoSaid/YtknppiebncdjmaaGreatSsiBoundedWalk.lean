/- The walk of SsiBounded: what is tracked stays within the caps; nothing is left where nobody is under way. -/
import Derived.Test.YtknppiebncdjmaaGreatSsBnd
set_option linter.unusedVariables false
namespace Go.Proofs.YtknppiebncdjmaaGreat
set_option maxRecDepth 100000
open Go.RowKit

set_option maxHeartbeats 16000000 in
theorem walk_SsiBounded (a0_0 a0_1 a0_2 a0_3 : Int) (A1 : Option Addr) (n1 c1 : Nat) (z1 : List OpX) (w : World) (_ha0_0 : -9223372036854775808 ≤ a0_0 ∧ a0_0 ≤ 9223372036854775807) (_ha0_1 : -9223372036854775808 ≤ a0_1 ∧ a0_1 ≤ 9223372036854775807) (_ha0_2 : -9223372036854775808 ≤ a0_2 ∧ a0_2 ≤ 9223372036854775807) (_ha0_3 : -9223372036854775808 ≤ a0_3 ∧ a0_3 ≤ 9223372036854775807) (h1 : RX w A1 n1 z1) (hn1 : n1 ≤ c1) (hc1 : c1 ≤ 1048576) :
    Calls Tryz.prog 7 #[.agg #[.int .i64 a0_0, .int .i64 a0_1, .int .i64 a0_2, .int .i64 a0_3], .slice A1 n1 c1] w fun e w' => e = .returned (.bool true) ∧ Below w.heap.size w w' := by
  clear _ha0_0 _ha0_1 _ha0_2 _ha0_3
  have hn : n1 ≤ 1048576 := Nat.le_trans hn1 hc1
  have CB := Lib.hid (fun W => wbegun10 W)
  obtain ⟨W, hW⟩ : ∃ W, w.alloc (.cells #[.int .i64 a0_0, .int .i64 a0_1, .int .i64 a0_2, .int .i64 a0_3] 23) = W := ⟨_, rfl⟩
  have HW := Lib.hid hW
  have hB : Below w.heap.size w W := by rw [← hW]; exact (Below.refl _ _).alloc (Nat.le_refl _) _
  have q0 : W.heap[w.heap.size]? = some (.cells #[.int .i64 a0_0, .int .i64 a0_1, .int .i64 a0_2, .int .i64 a0_3] 23 (0, 0)) := by rw [← hW]; exact heap_alloc_new _ _
  have x0 : W.cell? ⟨w.heap.size, 0, none⟩ = some (.int .i64 a0_0) := cell_of_row _ _ 0 _ _ _ q0
  have x1 : W.cell? ⟨w.heap.size, 1, none⟩ = some (.int .i64 a0_1) := cell_of_row _ _ 1 _ _ _ q0
  have x2 : W.cell? ⟨w.heap.size, 2, none⟩ = some (.int .i64 a0_2) := cell_of_row _ _ 2 _ _ _ q0
  have x3 : W.cell? ⟨w.heap.size, 3, none⟩ = some (.int .i64 a0_3) := cell_of_row _ _ 3 _ _ _ q0
  have HB := Lib.hid hB
  have H1 := Lib.hid (h1.below hB)
  have HN := Lib.hid hn
  clear hW hB q0 h1 hn hn1 hc1
  by_cases hok : capOk a0_0 a0_1 a0_2 a0_3
  rotate_left
  · have CN := Lib.hid (fun W => wStart_no W (A := A1) (n := n1) (c := c1) hok)
    have CM := Lib.hid (fun W => wMay_no W hok)
    clear hok
    go_enter Tryz.func7, Tryz.ntmps7
    go_upto_region 1 with fail
    rw [HW.out]
    go_wp2_with (first
      | (go_at_call 13; go_loud (refine (CB.out _).mono ?_; rintro e w2 ⟨rfl, b2⟩; have B2 := Lib.hid (below_next HB.out b2); replace x0 := keep_below x0 b2; replace x1 := keep_below x1 b2; replace x2 := keep_below x2 b2; replace x3 := keep_below x3 b2; clear b2))
      | (go_at_call 20; go_loud (refine (CN.out _).mono ?_; rintro e w3 ⟨rfl, b3⟩; have B3 := Lib.hid (below_next B2.out b3); replace x0 := keep_below x0 b3; replace x1 := keep_below x1 b3; replace x2 := keep_below x2 b3; replace x3 := keep_below x3 b3; clear b3))
      | (go_at_call 21; go_loud (refine (CM.out _).mono ?_; rintro e w4 ⟨rfl, b4⟩; have B4 := Lib.hid (below_next B3.out b4); clear b4)))
    go_ret
    exact ⟨rfl, B4.out⟩
  · obtain ⟨rn, rfl⟩ := Int.eq_ofNat_of_zero_le (show 0 ≤ a0_2 by have := hok.2.2.1.1; omega)
    have hr1 : 1 ≤ rn := by have := hok.2.2.1.1; omega
    have CN := Lib.hid (fun W (h : RX W A1 n1 z1) => wStart W (c := c1) hok h HN.out)
    have LN := Lib.hid (Lp10.new (c := ⟨a0_0, a0_1, rn, a0_3⟩) hr1 (max 1 n1) 0 0 0)
    have CA := Lib.hid (Cap10.new hok)
    have HCP := Lib.hid (show (⟨a0_0, a0_1, rn, a0_3⟩ : Cp10).act = a0_0 ∧ (⟨a0_0, a0_1, rn, a0_3⟩ : Cp10).kept = a0_1 ∧ (⟨a0_0, a0_1, rn, a0_3⟩ : Cp10).reads = rn ∧ (⟨a0_0, a0_1, rn, a0_3⟩ : Cp10).locks = a0_3 from ⟨rfl, rfl, rfl, rfl⟩)
    obtain ⟨cp, hcp⟩ : ∃ cp : Cp10, (⟨a0_0, a0_1, rn, a0_3⟩ : Cp10) = cp := ⟨_, rfl⟩
    rw [hcp] at LN CN CA HCP
    have HRL := Lib.hid (show (rowsP z1).length ≤ max 1 n1 by have := rows_len z1; have := H1.out.len; omega)
    have HR := Lib.hid (show 1 ≤ max 1 n1 ∧ max 1 n1 ≤ 1048576 by have := HN.out; omega)
    clear hok hcp hr1
    go_enter Tryz.func7, Tryz.ntmps7
    go_upto_region 1 with fail
    rw [HW.out]
    go_upto_region 4 with (first
      | (go_at_call 13; go_loud (refine (CB.out _).mono ?_; rintro e w2 ⟨rfl, b2⟩; have B2 := Lib.hid (below_next HB.out b2); have H2 := Lib.hid (H1.out.below b2); replace x0 := keep_below x0 b2; replace x1 := keep_below x1 b2; replace x2 := keep_below x2 b2; replace x3 := keep_below x3 b2; clear b2))
      | (go_at_call 20; go_loud (refine (CN.out _ H2.out).mono ?_; rintro e w3 ⟨p, b, G, K, V, rfl, m3, d3, g3, k3, b3⟩; have D3 := Lib.hid (DoIs.new m3 d3 g3 k3 b3); clear m3 d3 g3 k3 b3)))
    have XK := Lib.hid (fun W (g : Below w2.heap.size w2 W) => And.intro (keep_below x0 g) (And.intro (keep_below x1 g) (And.intro (keep_below x2 g) (keep_below x3 g))))
    clear x0 x1 x2 x3
    obtain ⟨R, hR⟩ : ∃ R, max 1 n1 = R := ⟨_, rfl⟩
    rw [hR] at LN HRL HR
    go_upto_region 7 with fail
    go_loopw [31] (fun i wr => ∃ (j : Nat) (X : Pl10), i = .int .i64 (j : Nat) ∧ j ≤ n1 ∧ DoIs (fun _ => False) w3 w2 p b (rowsP z1) cp X wr ∧ Lp10 R j j j cp X X.rs (j : Int) ∧ Cap10 cp X.S) (fun i _ => n1 - (intOf i).toNat)
    case atStart => exact ⟨0, _, rfl, Nat.zero_le _, D3.out, LN.out, CA.out⟩
    case round =>
      rename World => wr
      obtain ⟨j, X, rfl, hj, hD, hL, hC⟩ := hrel
      by_cases hlt : j < n1
      · obtain ⟨x, hx⟩ : ∃ x, z1[j]? = some x := ⟨_, List.getElem?_eq_getElem (by have := H2.out.len; omega)⟩
        have HO := Lib.hid (H2.out.is x (List.mem_of_getElem? hx))
        obtain ⟨ab, ao, rfl, q0, q1, q2, q3, q4, q5⟩ := (H2.out.below hD.bel).at_ hx
        have HL := Lib.hid (hL.own (rows := rowsP z1) (o := x) (by omega) (by have := HN.out; omega) HR.out.1 HRL.out)
        have HC := Lib.hid (hC.do (rows := rowsP z1) (o := x) (mo := (j : Int)) hL.inv)
        have CD := Lib.hid (fun W (D : DoIs (fun _ => False) w3 w2 p b (rowsP z1) cp X W) => wDo D hL (by omega) (by have := HN.out; omega) (by have := HN.out; omega) (by have := HN.out; omega) (by have := HN.out; omega) HR.out.2 HRL.out x HO.out j)
        obtain ⟨xd, xt, ⟨tb, ky⟩, to_, xl⟩ := x
        dsimp only at q0 q1 q2 q3 q4 q5 CD
        obtain ⟨Y, hY⟩ : ∃ Y, wr.alloc (.cells #[.int .i64 xd, .int .i64 xt, .string tb, .string ky, .string to_, .int .i64 xl] 44) = Y := ⟨_, rfl⟩
        have HY := Lib.hid hY
        have gY : Below wr.heap.size wr Y := by rw [← hY]; exact alloc_below10 _ _
        have rY : Y.heap[wr.heap.size]? = some (.cells #[.int .i64 xd, .int .i64 xt, .string tb, .string ky, .string to_, .int .i64 xl] 44 (0, 0)) := by rw [← hY]; exact heap_alloc_new _ _
        have y0 : Y.cell? ⟨wr.heap.size, 0, none⟩ = some (.int .i64 xd) := cell_of_row _ _ 0 _ _ _ rY
        have y1 : Y.cell? ⟨wr.heap.size, 1, none⟩ = some (.int .i64 xt) := cell_of_row _ _ 1 _ _ _ rY
        have y2 : Y.cell? ⟨wr.heap.size, 2, none⟩ = some (.string tb) := cell_of_row _ _ 2 _ _ _ rY
        have y3 : Y.cell? ⟨wr.heap.size, 3, none⟩ = some (.string ky) := cell_of_row _ _ 3 _ _ _ rY
        have y4 : Y.cell? ⟨wr.heap.size, 4, none⟩ = some (.string to_) := cell_of_row _ _ 4 _ _ _ rY
        have y5 : Y.cell? ⟨wr.heap.size, 5, none⟩ = some (.int .i64 xl) := cell_of_row _ _ 5 _ _ _ rY
        have DY := Lib.hid (hD.below gY)
        have i1 : (j : Int) < (n1 : Int) := by omega
        have l1 : (j : Int) ≤ 1048576 := by have := HN.out; omega
        have HLT := Lib.hid hlt
        clear hj hlt hx gY rY hY hD hL hC
        go_upto_region 9 with fail
        rw [HY.out]
        clear q0 q1 q2 q3 q4 q5
        obtain ⟨X', hX'⟩ : ∃ X', (doP cp (rowsP z1) X ⟨xd, xt, (tb, ky), to_, xl⟩ (j : Int)).2 = X' := ⟨_, rfl⟩
        rw [hX'] at HL HC CD
        clear hX'
        go_upto_region 10 with (go_at_call 22; go_loud (refine (CD.out _ DY.out).mono ?_; rintro e w4 ⟨rfl, d4⟩; have D4 := Lib.hid d4; clear d4))
        clear y0 y1 y2 y3 y4 y5
        obtain ⟨A2, c2, A3, c3, p0, -, p3, -⟩ := D4.out.cells
        have CT := Lib.hid (D4.out.track HL.out HC.out (by have := HN.out; have := HLT.out; omega) (by have := HN.out; have := HLT.out; omega))
        rw [HCP.out.1, HCP.out.2.1, HCP.out.2.2.1, HCP.out.2.2.2] at CT
        go_upto_region 11 with (go_at_call 27; go_loud (refine CT.out.mono ?_; rintro e w5 ⟨kn, ln, rfl, g1, g2, g3, g4, b5⟩; have B5 := Lib.hid b5; replace p3 := keep_below p3 b5; clear b5))
        obtain ⟨T, hT⟩ : ∃ T, w5.alloc (.cells #[.int .i64 (aliveN X'.rs : Nat), .int .i64 kn, .int .i64 ln, .int .i64 (lockN X'.rs : Nat)] 73) = T := ⟨_, rfl⟩
        rw [hT]
        have gT : Below w5.heap.size w5 T := by rw [← hT]; exact alloc_below10 _ _
        have rT : T.heap[w5.heap.size]? = some (.cells #[.int .i64 (aliveN X'.rs : Nat), .int .i64 kn, .int .i64 ln, .int .i64 (lockN X'.rs : Nat)] 73 (0, 0)) := by rw [← hT]; exact heap_alloc_new _ _
        have t0 : T.cell? ⟨w5.heap.size, 0, none⟩ = some (.int .i64 (aliveN X'.rs : Nat)) := cell_of_row _ _ 0 _ _ _ rT
        have t1 : T.cell? ⟨w5.heap.size, 1, none⟩ = some (.int .i64 kn) := cell_of_row _ _ 1 _ _ _ rT
        have t2 : T.cell? ⟨w5.heap.size, 2, none⟩ = some (.int .i64 ln) := cell_of_row _ _ 2 _ _ _ rT
        have t3 : T.cell? ⟨w5.heap.size, 3, none⟩ = some (.int .i64 (lockN X'.rs : Nat)) := cell_of_row _ _ 3 _ _ _ rT
        replace p3 := keep_below p3 gT
        have DT := Lib.hid ((D4.out.below B5.out).below gT)
        have TK := Lib.hid (fun W (g : Below T.heap.size T W) => And.intro (keep_below t0 g) (And.intro (keep_below t1 g) (And.intro (keep_below t2 g) (keep_below t3 g))))
        obtain ⟨A4, c4, ms, hl4, hms⟩ := DT.out.lst
        have e3 : (Value.slice A3 X'.rs.length c3) = .slice A4 ms.length c4 := by have := hl4.cell; rw [p3] at this; simpa using this
        rw [e3] at p3
        have LST := Lib.hid hl4
        have HML := Lib.hid (show ms.length ≤ 1048576 by
          have h1 := HL.out.cnt.n
          have h2 := HN.out
          have h3 := HLT.out
          rw [← hms, List.length_map] at h1
          omega)
        have HAL := Lib.hid (fun k => alive_lt HL.out (by have := HN.out; have := HLT.out; omega) (by have := HN.out; have := HLT.out; omega) k)
        have HRS := Lib.hid hms
        clear hms hl4 e3 t0 t1 t2 t3 hT rT gT p0 CT CD
        go_upto_region 14 with fail
        clear p3
        go_loopw [10, 11, 50] (fun av lv i wz => ∃ k : Nat, av = .int .i64 (aliveN (X'.rs.take k) : Nat) ∧ lv = .int .i64 (lockN (X'.rs.take k) : Nat) ∧ i = .int .i64 (k : Nat) ∧ k ≤ ms.length ∧ Below T.heap.size T wz) (fun _ _ i _ => ms.length - (intOf i).toNat)
        case atStart => exact ⟨0, by simp [aliveN], by simp [lockN], rfl, Nat.zero_le _, Below.refl _ _⟩
        case round =>
          rename World => wz
          obtain ⟨k, rfl, rfl, rfl, hk, hbz⟩ := hrel
          by_cases hkl : k < ms.length
          · obtain ⟨y, hy⟩ : ∃ y, ms[k]? = some y := ⟨_, List.getElem?_eq_getElem hkl⟩
            have hyr : X'.rs[k]? = some y.r := by rw [← HRS.out, List.getElem?_map, hy]; rfl
            have HA1 := Lib.hid (alive_take hyr)
            have HA2 := Lib.hid (lock_take hyr)
            obtain ⟨g', o', rfl, q0, q1, q2, q3, q4, q5, q6, q7⟩ := (LST.out.gw hbz).at_ hy
            obtain ⟨Z, hZ⟩ : ∃ Z, wz.alloc (.cells #[.int .i64 y.r.tx, .int .i64 y.r.snap, .int .i64 y.r.begun, .int .i64 y.r.ended, .bool y.r.com, .bool y.r.over, .slice y.ra y.r.reads.length y.rc, .slice y.wa y.r.writes.length y.wc] 70) = Z := ⟨_, rfl⟩
            have HZ := Lib.hid hZ
            obtain ⟨gZ, -, -, -, -, b5, b7⟩ := run_row y Z hZ
            obtain ⟨⟨ytx, ysn, ybg, yen, yco, yov, yrd, ywr⟩, yra, yrc, ywa, ywc⟩ := y
            dsimp only at q0 q1 q2 q3 q4 q5 q6 q7 b5 b7 HZ HA1 HA2
            have HBZ := Lib.hid (below_next hbz gZ)
            have HAK := Lib.hid (And.intro (HAL.out k) (HAL.out (k + 1)))
            obtain ⟨an, han⟩ : ∃ n, aliveN (X'.rs.take k) = n := ⟨_, rfl⟩
            obtain ⟨ln2, hln⟩ : ∃ n, lockN (X'.rs.take k) = n := ⟨_, rfl⟩
            rw [han] at HA1 HAK
            rw [hln] at HA2 HAK
            rw [han, hln]
            have i3 : (k : Int) < (ms.length : Int) := by omega
            have l3 : (k : Int) ≤ 1048576 := by have := HML.out; omega
            have HKL := Lib.hid hkl
            clear hk hkl hy hyr hZ gZ hbz han hln
            go_upto_region 16 with fail
            rw [HZ.out]
            clear q0 q1 q2 q3 q4 q5 q6 q7
            cases yov
            · rw [if_neg (by simp)] at HA1 HA2
              go_wp2
              go_roundw
              case rel => exact ⟨k + 1, by have h9 : (an : Int) ≤ 1048576 := (by have := HAK.out.1.1; omega); rw [HA1.out]; congr 1; unfold wrap64; omega, by have h9 : (ln2 : Int) + (ywr.length : Int) ≤ 1099511627776 := (by have := HAK.out.2.2; rw [HA2.out] at this; omega); rw [HA2.out]; congr 1; unfold wrap64; omega, by go_num, HKL.out, HBZ.out⟩
              case measure => have := HKL.out; simp [intOf]; omega
            · rw [if_pos rfl] at HA1 HA2
              go_wp2
              go_roundw
              case rel => exact ⟨k + 1, by rw [HA1.out]; rfl, by rw [HA2.out]; rfl, by go_num, HKL.out, HBZ.out⟩
              case measure => have := HKL.out; simp [intOf]; omega
          · obtain rfl : k = ms.length := by omega
            have i3 : ¬ (ms.length : Int) < (ms.length : Int) := by omega
            have htk : X'.rs.take ms.length = X'.rs := List.take_of_length_le (by rw [← HRS.out, List.length_map]; exact Nat.le_refl _)
            rw [htk]
            obtain ⟨t0, t1, t2, t3⟩ := TK.out wz hbz
            obtain ⟨x0, x1, x2, x3⟩ := XK.out wz (below_next DT.out.bel hbz)
            obtain ⟨an, han⟩ : ∃ n, aliveN X'.rs = n := ⟨_, rfl⟩
            obtain ⟨lk, hlk⟩ : ∃ n, lockN X'.rs = n := ⟨_, rfl⟩
            rw [han] at g1 t0
            rw [hlk] at g4 t3
            rw [han, hlk]
            have DW := Lib.hid (DT.out.below hbz)
            clear hk hkl hbz htk han hlk
            go_wp2
            go_roundw
            case rel => exact ⟨j + 1, X', by go_num, HLT.out, DW.out, HL.out, HC.out⟩
            case measure => have := HLT.out; simp [intOf]; omega
      · obtain rfl : j = n1 := by omega
        have i1 : ¬ (j : Int) < (j : Int) := by omega
        obtain ⟨G4, K4, V4, ms, D, hms⟩ := hD
        have p3 := D.d.cells.2.2.2.1
        have AB := Lib.hid (Abd.start hL.inv hC)
        have HML := Lib.hid (show ms.length ≤ 1048576 by
          have h1 := hL.cnt.n
          have h2 := HN.out
          rw [← hms, List.length_map] at h1
          omega)
        have HRS := Lib.hid hms
        have HD := Lib.hid D
        have HTX := Lib.hid hL.inv.tx
        clear hj hlt hL hC hms D
        go_upto_region 24 with fail
        clear p3
        go_loopw [109] (fun i wq => ∃ (k : Nat) (S' : St10) (G K : Nat → Prop), i = .int .i64 (k : Nat) ∧ k ≤ ms.length ∧ Do10 (fun _ => False) w3 w2 wq G K p b V4 (rowsP z1) X.vs ms cp S' ∧ Abd cp X.vs X.rs S' k ((j : Int) + (k : Int))) (fun i _ => ms.length - (intOf i).toNat)
        case atStart => exact ⟨0, _, _, _, rfl, Nat.zero_le _, HD.out, by have := AB.out; simpa using this⟩
        case round =>
          rename World => wq
          obtain ⟨k, S', G, K, rfl, hk, hdo, hab⟩ := hrel
          by_cases hkl : k < ms.length
          · obtain ⟨y, hy⟩ : ∃ y, ms[k]? = some y := ⟨_, List.getElem?_eq_getElem hkl⟩
            have hyr : X.rs[k]? = some y.r := by rw [← HRS.out, List.getElem?_map, hy]; rfl
            have LS : Lst wq p V4.la V4.lc ms := ⟨hdo.d.cells.2.2.2.1, hdo.d.list.sb10, fun m hm => (hdo.d.runs m hm).2.sb10⟩
            obtain ⟨g', o', hgo, q0, q1, q2, q3, q4, q5, q6, q7⟩ := LS.at_ hy
            obtain ⟨Z, hZ⟩ : ∃ Z, wq.alloc (.cells #[.int .i64 y.r.tx, .int .i64 y.r.snap, .int .i64 y.r.begun, .int .i64 y.r.ended, .bool y.r.com, .bool y.r.over, .slice y.ra y.r.reads.length y.rc, .slice y.wa y.r.writes.length y.wc] 70) = Z := ⟨_, rfl⟩
            have HZ := Lib.hid hZ
            obtain ⟨gZ, b0, -, -, -, b5, -⟩ := run_row y Z hZ
            have HTK := Lib.hid (HTX.out k y.r hyr)
            have HP := Lib.hid (fun ho => hab.pass hyr ho)
            have HX := Lib.hid (fun ho => hab.next hyr ho)
            have hbd : Bd10 S' := by
              obtain ⟨h1, h2⟩ := hab.bd (by rw [← HRS.out, List.length_map]; have := HML.out; omega) (by have := HN.out; have := HML.out; omega)
              exact ⟨h1, h2⟩
            have DZ := Lib.hid (hdo.bel gZ)
            have HGW := Lib.hid (fun hg => Nat.lt_irrefl _ (hdo.m.lt.1 wq.heap.size hg) : ¬ G wq.heap.size)
            obtain ⟨⟨ytx, ysn, ybg, yen, yco, yov, yrd, ywr⟩, yra, yrc, ywa, ywc⟩ := y
            dsimp only at q0 q1 q2 q3 q4 q5 q6 q7 b0 b5 HZ HTK HP HX
            have HWF := Lib.hid (show (Lit.int .i64 ytx).wf = true from wf_ofX (by have := HTK.out; have := HML.out; omega))
            have CA2 := Lib.hid (fun (W1 : World) (D : Do10 (fun _ => False) w3 w2 W1 G K p b V4 (rowsP z1) X.vs ms cp S') => w10Abort D.m hbd HWF.out)
            have p0 := DZ.out.d.cells.1
            have i3 : (k : Int) < (ms.length : Int) := by omega
            have l3 : (k : Int) ≤ 1048576 := by have := HML.out; omega
            have HKL := Lib.hid hkl
            rw [hgo]
            clear hk hkl hy hyr hZ gZ hdo hab LS hbd
            go_upto_region 26 with fail
            rw [HZ.out]
            clear q0 q1 q2 q3 q4 q5 q6 q7 hgo
            cases yov
            · obtain ⟨hx0, hx1⟩ := HX.out rfl
              obtain ⟨⟨er, S2⟩, hq⟩ : ∃ q, abort10 S' ytx = q := ⟨_, rfl⟩
              rw [hq] at hx0 hx1
              dsimp only at hx0 hx1
              subst hx0
              simp only [hq] at CA2
              have HX1 := Lib.hid hx1
              clear hq hx1
              have S0 : Z.cell? ⟨p, 0, none⟩ = some (.pointer (some ⟨b, 0, none⟩)) ∧ Z.cell? ⟨wq.heap.size, 0, none⟩ = some (.int .i64 ytx) ∧ Z.cell? ⟨wq.heap.size, 5, none⟩ = some (.bool false) := ⟨p0, b0, b5⟩
              go_region_held3 (fun w' => w'.cell? ⟨p, 0, none⟩ = some (.pointer (some ⟨b, 0, none⟩)) ∧ w'.cell? ⟨wq.heap.size, 0, none⟩ = some (.int .i64 ytx) ∧ w'.cell? ⟨wq.heap.size, 5, none⟩ = some (.bool false))
                (first | exact S0 | exact SA)
                (first | (go_at_call 17; go_loud (refine (CA2.out _ (DZ.out.bel (Below.refl _ _).drew)).mono ?_; rintro e w7 ⟨rfl, l7⟩; obtain ⟨G7, K7, d7⟩ := (DZ.out.bel (Below.refl _ _).drew).call l7; obtain ⟨-, -, -, -, -, out7⟩ := l7; have SA : w7.cell? ⟨p, 0, none⟩ = some (.pointer (some ⟨b, 0, none⟩)) ∧ w7.cell? ⟨wq.heap.size, 0, none⟩ = some (.int .i64 ytx) ∧ w7.cell? ⟨wq.heap.size, 5, none⟩ = some (.bool false) := ⟨d7.d.cells.1, out7.cell (p := ⟨wq.heap.size, 0, none⟩) S0.2.1 HGW.out, out7.cell (p := ⟨wq.heap.size, 5, none⟩) S0.2.2 HGW.out⟩; have D7 := Lib.hid d7; clear d7 out7)))
              all_goals
                go_wp2
                go_roundw
                case rel => exact ⟨k + 1, S2, G7, K7, by go_num, HKL.out, D7.out, by have := HX1.out; rw [show (j : Int) + ((k + 1 : Nat) : Int) = (j : Int) + (k : Int) + 1 by omega]; exact this⟩
                case measure => have := HKL.out; simp [intOf]; omega
            · go_quiet (fail)
              go_wp2
              go_roundw
              case rel => exact ⟨k + 1, S', G, K, by go_num, HKL.out, DZ.out.bel (bel_drewN _ _), by have := HP.out rfl; rw [show (j : Int) + ((k + 1 : Nat) : Int) = (j : Int) + (k : Int) + 1 by omega]; exact this⟩
              case measure => have := HKL.out; simp [intOf]; omega
          · obtain rfl : k = ms.length := by omega
            have i3 : ¬ (ms.length : Int) < (ms.length : Int) := by omega
            have hid : S'.list = [] ∧ S'.L = [] ∧ S'.H = [] := by
              have hab2 : Abd cp X.vs X.rs S' X.rs.length ((j : Int) + (ms.length : Int)) := by
                have e : X.rs.length = ms.length := by rw [← HRS.out, List.length_map]
                rw [e]; exact hab
              exact hab2.idle
            have hbd : Bd10 S' := by
              obtain ⟨h1, h2⟩ := hab.bd (by rw [← HRS.out, List.length_map]; have := HML.out; omega) (by have := HN.out; have := HML.out; omega)
              exact ⟨h1, h2⟩
            have ha0 : activeP S'.list = 0 := by rw [hid.1]; rfl
            have p0 := hdo.d.cells.1
            have CT := Lib.hid (show Calls Tryz.prog 27 #[.pointer (some ⟨b, 0, none⟩)] wq fun e w' => e = .returned (.agg #[.int .i64 0, .int .i64 0, .int .i64 0, .int .i64 0]) ∧ Below wq.heap.size wq w' from (w10Track hdo.m hbd).mono (by
              rintro e w' ⟨rfl, g⟩
              refine ⟨?_, g⟩
              rw [ha0, hid.1, hid.2.1, hid.2.2]
              rfl))
            have CA3 := Lib.hid (fun W (g : Below wq.heap.size wq W) => w10Active (hdo.bel g).m hbd)
            simp only [ha0] at CA3
            have qE := fun W => eqTrk W
            have HDO := Lib.hid hdo
            have HBR := Lib.hid (below_next B2.out hdo.z)
            clear hk hkl hab hid hbd ha0 hdo
            go_wp2_with (first
              | (go_at_call 27; go_loud (refine CT.out.mono ?_; rintro e w8 ⟨rfl, b8⟩; have B8 := Lib.hid b8; replace p0 := keep_below p0 b8; clear b8))
              | (go_at_call 28; go_loud (refine (CA3.out _ B8.out).mono ?_; rintro e w9 ⟨A9, c9, xs9, rfl, -, b9⟩; have B9 := Lib.hid b9; clear b9)))
            go_ret
            exact ⟨rfl, below_next (below_next HBR.out B8.out) B9.out⟩
end Go.Proofs.YtknppiebncdjmaaGreat
