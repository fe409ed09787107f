/- The walk of SsiLeaves: what is refused is under way no more, and has changed no other one's flags. -/
import Derived.Test.YtknppiebncdjmaaGreatSsFr
import Derived.Test.YtknppiebncdjmaaGreatJBO
set_option linter.unusedVariables false
namespace Go.Proofs.YtknppiebncdjmaaGreat
set_option maxRecDepth 100000
open Go.RowKit

set_option maxHeartbeats 16000000 in
theorem walk_SsiLeaves (a0_0 a0_1 a0_2 a0_3 : Int) (A1 : Option Addr) (n1 c1 : Nat) (z1 : List OpX) (w : World) (_ha0_0 : -9223372036854775808 ≤ a0_0 ∧ a0_0 ≤ 9223372036854775807) (_ha0_1 : -9223372036854775808 ≤ a0_1 ∧ a0_1 ≤ 9223372036854775807) (_ha0_2 : -9223372036854775808 ≤ a0_2 ∧ a0_2 ≤ 9223372036854775807) (_ha0_3 : -9223372036854775808 ≤ a0_3 ∧ a0_3 ≤ 9223372036854775807) (h1 : RX w A1 n1 z1) (hn1 : n1 ≤ c1) (hc1 : c1 ≤ 1048576) :
    Calls Tryz.prog 8 #[.agg #[.int .i64 a0_0, .int .i64 a0_1, .int .i64 a0_2, .int .i64 a0_3], .slice A1 n1 c1] w fun e w' => e = .returned (.bool true) ∧ Below w.heap.size w w' := by
  clear _ha0_0 _ha0_1 _ha0_2 _ha0_3
  have hn : n1 ≤ 1048576 := Nat.le_trans hn1 hc1
  have CB := Lib.hid (fun W => wbegun10 W)
  obtain ⟨W, hW⟩ : ∃ W, w.alloc (.cells #[.int .i64 a0_0, .int .i64 a0_1, .int .i64 a0_2, .int .i64 a0_3] 23) = W := ⟨_, rfl⟩
  have HW := Lib.hid hW
  have hB : Below w.heap.size w W := by rw [← hW]; exact (Below.refl _ _).alloc (Nat.le_refl _) _
  have q0 : W.heap[w.heap.size]? = some (.cells #[.int .i64 a0_0, .int .i64 a0_1, .int .i64 a0_2, .int .i64 a0_3] 23 (0, 0)) := by rw [← hW]; exact heap_alloc_new _ _
  have x0 : W.cell? ⟨w.heap.size, 0, none⟩ = some (.int .i64 a0_0) := cell_of_row _ _ 0 _ _ _ q0
  have x1 : W.cell? ⟨w.heap.size, 1, none⟩ = some (.int .i64 a0_1) := cell_of_row _ _ 1 _ _ _ q0
  have x2 : W.cell? ⟨w.heap.size, 2, none⟩ = some (.int .i64 a0_2) := cell_of_row _ _ 2 _ _ _ q0
  have x3 : W.cell? ⟨w.heap.size, 3, none⟩ = some (.int .i64 a0_3) := cell_of_row _ _ 3 _ _ _ q0
  have HB := Lib.hid hB
  have H1 := Lib.hid (h1.below hB)
  have HN := Lib.hid hn
  clear hW hB q0 h1 hn hn1 hc1
  by_cases hok : capOk a0_0 a0_1 a0_2 a0_3
  rotate_left
  · have CN := Lib.hid (fun W => wStart_no W (A := A1) (n := n1) (c := c1) hok)
    have CM := Lib.hid (fun W => wMay_no W hok)
    clear hok
    go_enter Tryz.func8, Tryz.ntmps8
    go_upto_region 1 with fail
    rw [HW.out]
    go_wp2_with (first
      | (go_at_call 13; go_loud (refine (CB.out _).mono ?_; rintro e w2 ⟨rfl, b2⟩; have B2 := Lib.hid (below_next HB.out b2); replace x0 := keep_below x0 b2; replace x1 := keep_below x1 b2; replace x2 := keep_below x2 b2; replace x3 := keep_below x3 b2; clear b2))
      | (go_at_call 20; go_loud (refine (CN.out _).mono ?_; rintro e w3 ⟨rfl, b3⟩; have B3 := Lib.hid (below_next B2.out b3); replace x0 := keep_below x0 b3; replace x1 := keep_below x1 b3; replace x2 := keep_below x2 b3; replace x3 := keep_below x3 b3; clear b3))
      | (go_at_call 21; go_loud (refine (CM.out _).mono ?_; rintro e w4 ⟨rfl, b4⟩; have B4 := Lib.hid (below_next B3.out b4); clear b4)))
    go_ret
    exact ⟨rfl, B4.out⟩
  · obtain ⟨rn, rfl⟩ := Int.eq_ofNat_of_zero_le (show 0 ≤ a0_2 by have := hok.2.2.1.1; omega)
    have hr1 : 1 ≤ rn := by have := hok.2.2.1.1; omega
    have CN := Lib.hid (fun W (h : RX W A1 n1 z1) => wStart W (c := c1) hok h HN.out)
    have LN := Lib.hid (Lp10.new (c := ⟨a0_0, a0_1, rn, a0_3⟩) hr1 (max 1 n1) 0 0 0)
    obtain ⟨cp, hcp⟩ : ∃ cp : Cp10, (⟨a0_0, a0_1, rn, a0_3⟩ : Cp10) = cp := ⟨_, rfl⟩
    rw [hcp] at LN CN
    have HRL := Lib.hid (show (rowsP z1).length ≤ max 1 n1 by have := rows_len z1; have := H1.out.len; omega)
    have HR := Lib.hid (show 1 ≤ max 1 n1 ∧ max 1 n1 ≤ 1048576 by have := HN.out; omega)
    clear hok hcp hr1
    go_enter Tryz.func8, Tryz.ntmps8
    go_upto_region 1 with fail
    rw [HW.out]
    go_upto_region 4 with (first
      | (go_at_call 13; go_loud (refine (CB.out _).mono ?_; rintro e w2 ⟨rfl, b2⟩; have B2 := Lib.hid (below_next HB.out b2); have H2 := Lib.hid (H1.out.below b2); replace x0 := keep_below x0 b2; replace x1 := keep_below x1 b2; replace x2 := keep_below x2 b2; replace x3 := keep_below x3 b2; clear b2))
      | (go_at_call 20; go_loud (refine (CN.out _ H2.out).mono ?_; rintro e w3 ⟨p, b, G, K, V, rfl, m3, d3, g3, k3, b3⟩; have D3 := Lib.hid (DoIs.new m3 d3 g3 k3 b3).free; clear m3 d3 g3 k3 b3)))
    clear x0 x1 x2 x3
    obtain ⟨R, hR⟩ : ∃ R, max 1 n1 = R := ⟨_, rfl⟩
    rw [hR] at LN HRL HR
    go_upto_region 7 with fail
    go_loopw [37] (fun i wr => ∃ (j : Nat) (X : Pl10), i = .int .i64 (j : Nat) ∧ j ≤ n1 ∧ DoIs (fun _ => False) w2 w2 p b (rowsP z1) cp X wr ∧ Lp10 R j j j cp X X.rs (j : Int)) (fun i _ => n1 - (intOf i).toNat)
    case atStart => exact ⟨0, _, rfl, Nat.zero_le _, D3.out, LN.out⟩
    case round =>
      rename World => wr
      obtain ⟨j, X, rfl, hj, hD, hL⟩ := hrel
      by_cases hlt : j < n1
      · obtain ⟨x, hx⟩ : ∃ x, z1[j]? = some x := ⟨_, List.getElem?_eq_getElem (by have := H2.out.len; omega)⟩
        have HO := Lib.hid (H2.out.is x (List.mem_of_getElem? hx))
        obtain ⟨ab, ao, rfl, q0, q1, q2, q3, q4, q5⟩ := (H2.out.below hD.bel).at_ hx
        have HL := Lib.hid (hL.own (rows := rowsP z1) (o := x) (by omega) (by have := HN.out; omega) HR.out.1 HRL.out)
        have HLV := Lib.hid (fun (h1 : 1 ≤ x.do_ ∧ x.do_ ≤ 3) i r hof hi htx hov => leave_is (rows := rowsP z1) (o := x) (i := i) (r := r) hL.inv (by omega) (by have := HN.out; omega) h1 hof hi htx hov)
        have CD := Lib.hid (fun P wf W (D : DoIs P wf w2 p b (rowsP z1) cp X W) => wDo D hL (by omega) (by have := HN.out; omega) (by have := HN.out; omega) (by have := HN.out; omega) (by have := HN.out; omega) HR.out.2 HRL.out x HO.out j)
        obtain ⟨xd, xt, ⟨tb, ky⟩, to_, xl⟩ := x
        dsimp only at q0 q1 q2 q3 q4 q5 CD HLV
        obtain ⟨Y, hY⟩ : ∃ Y, wr.alloc (.cells #[.int .i64 xd, .int .i64 xt, .string tb, .string ky, .string to_, .int .i64 xl] 44) = Y := ⟨_, rfl⟩
        have HY := Lib.hid hY
        have gY : Below wr.heap.size wr Y := by rw [← hY]; exact alloc_below10 _ _
        have rY : Y.heap[wr.heap.size]? = some (.cells #[.int .i64 xd, .int .i64 xt, .string tb, .string ky, .string to_, .int .i64 xl] 44 (0, 0)) := by rw [← hY]; exact heap_alloc_new _ _
        obtain ⟨G, K, V, ms, D, hms⟩ := hD
        have HD := Lib.hid D
        have DY := Lib.hid (D.bel gY)
        have HRS := Lib.hid hms
        have HML := Lib.hid (show ms.length ≤ 1048576 by
          have h1 := hL.cnt.n
          have h2 := HN.out
          rw [← hms, List.length_map] at h1
          omega)
        have BDX := Lib.hid (show Bd10 X.S from Inv10.bd hL.inv (by have h1 := hL.cnt.n; have h2 := HN.out; omega) (by have h2 := HN.out; omega))
        have HTX := Lib.hid hL.inv.tx
        have p3 := DY.out.d.cells.2.2.2.1
        have RY := Lib.hid rY
        have GY := Lib.hid gY
        have i1 : (j : Int) < (n1 : Int) := by omega
        have l1 : (j : Int) ≤ 1048576 := by have := HN.out; omega
        have HLT := Lib.hid hlt
        have HJ := Lib.hid hL
        clear hj hlt hx gY rY hY hL D hms
        go_upto_region 9 with fail
        rw [HY.out]
        clear q0 q1 q2 q3 q4 q5
        go_upto_region 11 with fail
        clear p3
        go_loopw [9, 47] (fun bv i wz => ∃ k : Nat, i = .int .i64 (k : Nat) ∧ k ≤ ms.length ∧ SO seG Y.heap.size wz bv k (cellsF flC (befF X.S (X.rs.take k))) ∧ Below Y.heap.size Y wz) (fun _ i _ => ms.length - (intOf i).toNat)
        case atStart => exact ⟨0, rfl, Nat.zero_le _, SO.nil _ _ _, Below.refl _ _⟩
        case round =>
          rename World => wz
          obtain ⟨k, rfl, hk, hso, hbz⟩ := hrel
          by_cases hkl : k < ms.length
          · obtain ⟨y, hy⟩ : ∃ y, ms[k]? = some y := ⟨_, List.getElem?_eq_getElem hkl⟩
            have hyr : X.rs[k]? = some y.r := by rw [← HRS.out, List.getElem?_map, hy]; rfl
            have DZ0 := DY.out.bel hbz
            have LS : Lst wz p V.la V.lc ms := ⟨DZ0.d.cells.2.2.2.1, DZ0.d.list.sb10, fun m hm => (DZ0.d.runs m hm).2.sb10⟩
            obtain ⟨g', o', hgo, q0, q1, q2, q3, q4, q5, q6, q7⟩ := LS.at_ hy
            obtain ⟨Z, hZ⟩ : ∃ Z, wz.alloc (.cells #[.int .i64 y.r.tx, .int .i64 y.r.snap, .int .i64 y.r.begun, .int .i64 y.r.ended, .bool y.r.com, .bool y.r.over, .slice y.ra y.r.reads.length y.rc, .slice y.wa y.r.writes.length y.wc] 70) = Z := ⟨_, rfl⟩
            have HZ := Lib.hid hZ
            obtain ⟨gZ, b0, -, -, -, -, -⟩ := run_row y Z hZ
            have HBF := Lib.hid (bef_take (S := X.S) hyr)
            have hyt := HTX.out k y.r hyr
            have hwf : (Lit.int .i64 y.r.tx).wf = true := wf_ofX (by have := HML.out; omega)
            have CF := Lib.hid (fun W (g : Below Z.heap.size Z W) => w10Flags ((DZ0.bel gZ).bel g).m BDX.out hwf)
            obtain ⟨⟨f1, f2⟩, hf⟩ : ∃ f, (of10 X.S y.r.tx).2.1 = f := ⟨_, rfl⟩
            simp only [hf, flagV] at CF
            rw [hf] at HBF
            obtain ⟨er, hef⟩ : ∃ e, (of10 X.S y.r.tx).2.2 = e := ⟨_, rfl⟩
            simp only [hef] at CF
            obtain ⟨B, hB⟩ : ∃ B, befF X.S (X.rs.take k) = B := ⟨_, rfl⟩
            have HBL := Lib.hid (show B.length = k by rw [← hB]; unfold befF; rw [List.length_map, List.length_take]; have := (List.getElem?_eq_some_iff.1 hyr).1; omega)
            rw [hB] at HBF hso
            have SOB := Lib.hid (hso.below gZ)
            have HBZ := Lib.hid (below_next hbz gZ)
            have p0 := (DZ0.bel gZ).d.cells.1
            obtain ⟨⟨ytx, ysn, ybg, yen, yco, yov, yrd, ywr⟩, yra, yrc, ywa, ywc⟩ := y
            dsimp only at q0 q1 q2 q3 q4 q5 q6 q7 b0 HZ CF
            have i3 : (k : Int) < (ms.length : Int) := by omega
            have l3 : (k : Int) ≤ 1048576 := by have := HML.out; omega
            have HKL := Lib.hid hkl
            rw [hgo]
            clear hk hkl hy hyr hZ gZ hbz hso hyt hwf hf hef hB DZ0 LS
            go_upto_region 13 with fail
            rw [HZ.out]
            clear q0 q1 q2 q3 q4 q5 q6 q7 hgo
            have S0 : Z.cell? ⟨p, 0, none⟩ = some (.pointer (some ⟨b, 0, none⟩)) ∧ Z.cell? ⟨wz.heap.size, 0, none⟩ = some (.int .i64 ytx) := ⟨p0, b0⟩
            have SK := Lib.hid (fun V (g : Below Z.heap.size Z V) => (⟨keep_below S0.1 g, keep_below S0.2 g⟩ : V.cell? ⟨p, 0, none⟩ = some (.pointer (some ⟨b, 0, none⟩)) ∧ V.cell? ⟨wz.heap.size, 0, none⟩ = some (.int .i64 ytx)))
            have KA := Lib.hid (alloc_below10 Z (.cells #[.bool false, .bool false] 79))
            have SG := (SK.out _ KA.out)
            have ra : (Z.alloc (.cells #[.bool false, .bool false] 79)).heap[Z.heap.size]? = some (.cells #[.bool false, .bool false] 79 (0, 0)) := heap_alloc_new _ _
            have RA := Lib.hid (fun V (g : Below (Z.alloc (.cells #[.bool false, .bool false] 79)).heap.size (Z.alloc (.cells #[.bool false, .bool false] 79)) V) => (g.block _ (Array.getElem?_eq_some_iff.1 ra).1).trans ra)
            go_cut [12] (fun v12 wx => ∃ g, v12 = .pointer (some ⟨g, 0, none⟩) ∧ Z.heap.size ≤ g ∧ wx.cell? ⟨g, 0, none⟩ = some (.bool f1) ∧ wx.cell? ⟨g, 1, none⟩ = some (.bool f2) ∧ Below Z.heap.size Z wx)
            case first =>
              go_region_held3 (fun w' => w'.cell? ⟨p, 0, none⟩ = some (.pointer (some ⟨b, 0, none⟩)) ∧ w'.cell? ⟨wz.heap.size, 0, none⟩ = some (.int .i64 ytx))
                (first | exact S0 | exact SG | exact SA | exact SF.out _ (alloc_below10 _ _) | exact SE.out _ _)
                (first
                  | (go_at_call 29; refine (CF.out _ (Below.refl _ _).drew).mono ?_; rintro e w5 ⟨rfl, b5⟩; have B5 := Lib.hid (below_next (Below.refl Z.heap.size Z).drew b5); have SA := SK.out w5 B5.out; have SF := Lib.hid (fun V (g : Below w5.heap.size w5 V) => SK.out V (below_next B5.out g)); have EV := Lib.hid (heap_alloc_new w5 (.cells #[.bool f1, .bool f2] 79)); clear b5)
                  | (go_at_call 29; refine (CF.out _ (below_next KA.out (Below.refl _ _).drew)).mono ?_; rintro e w5 ⟨rfl, b5⟩; have bA := below_next (Below.refl (Z.alloc (.cells #[.bool false, .bool false] 79)).heap.size (Z.alloc (.cells #[.bool false, .bool false] 79))).drew b5; have B5 := Lib.hid (below_next KA.out bA); have SA := SK.out w5 B5.out; have SF := Lib.hid (fun V (g : Below w5.heap.size w5 V) => SK.out V (below_next B5.out g)); have r5 := RA.out w5 bA; have R5 := Lib.hid r5; have y0 : w5.cell? ⟨Z.heap.size, 0, none⟩ = some (.bool false) := cell_of_row _ _ 0 _ _ _ r5; have y1 : w5.cell? ⟨Z.heap.size, 1, none⟩ = some (.bool false) := cell_of_row _ _ 1 _ _ _ r5; have h0 : w5.frozen? ⟨Z.heap.size, 0, none⟩ = false := frozen_of_row _ _ _ _ _ r5; have h1 : w5.frozen? ⟨Z.heap.size, 1, none⟩ = false := frozen_of_row _ _ _ _ _ r5; have SE := Lib.hid (fun x0 x1 : Value => SK.out ((w5.setCell ⟨Z.heap.size, 0, none⟩ x0).setCell ⟨Z.heap.size, 1, none⟩ x1) ((B5.out.setCell (by exact Nat.le_refl _) x0).setCell (by exact Nat.le_refl _) x1)); clear b5 bA r5))
              · go_wp2
                go_meet
                exact ⟨w5.heap.size, rfl, B5.out.size, cell_of_row _ _ 0 _ _ _ EV.out, cell_of_row _ _ 1 _ _ _ EV.out, below_next B5.out (alloc_below10 _ _)⟩
              · go_wp2
                go_meet
                have r2 := heap_setCell_same _ Z.heap.size 1 _ _ (.bool f2) (heap_setCell_same w5 Z.heap.size 0 _ _ (.bool f1) R5.out)
                exact ⟨Z.heap.size, rfl, Nat.le_refl _, cell_of_row _ _ 0 _ _ _ r2, cell_of_row _ _ 1 _ _ _ r2, (B5.out.setCell (by exact Nat.le_refl _) _).setCell (by exact Nat.le_refl _) _⟩
            case rest =>
              obtain ⟨g, rfl, hg, v0, v1, bc⟩ := hcut
              have HSB := Lib.hid (sb_flag wc (f1, f2))
              have SOC := Lib.hid (SOB.out.below bc)
              have ZC := Lib.hid (show Y.heap.size ≤ wc.heap.size by have := HBZ.out.size; have := bc.size; omega)
              have BC := Lib.hid (below_next HBZ.out bc)
              clear hg bc S0 SG ra
              go_wp2_with (at_builtin; go_loud (refine so_appendW seG_ok (by rfl) (.tmp 61) (.tmp 63) (by rfl) _ (by rfl) (SOC.out.alloc _) (some ⟨wc.heap.size, 0, none⟩) 1 1 (cellsF flC [(f1, f2)]) (by rfl) HSB.out (by have := HKL.out; have := HML.out; show _ * 2 ≤ _; omega) (by have := HKL.out; have := HML.out; simp only [maxLen]; omega) (by have := ZC.out; simp; omega) ?_; intro v6 w6 o6 b6; have O6 := Lib.hid o6; have B6 := Lib.hid (BC.out.trans ((alloc_below10 wc _).mono ZC.out |>.trans b6)); clear o6 b6))
              go_roundw
              case rel => exact ⟨k + 1, by go_num, HKL.out, by rw [HBF.out, cellsF_app]; exact O6.out, B6.out⟩
              case measure => have := HKL.out; simp [intOf]; omega
          · obtain rfl : k = ms.length := by omega
            have i3 : ¬ (ms.length : Int) < (ms.length : Int) := by omega
            have htk : X.rs.take ms.length = X.rs := List.take_of_length_le (by rw [← HRS.out, List.length_map]; exact Nat.le_refl _)
            rw [htk] at hso
            have HLN := Lib.hid (show X.rs.length = ms.length by rw [← HRS.out, List.length_map])
            have CO := Lib.hid ((DY.out.bel hbz).d.of (by have := HML.out; omega) xt)
            rw [HRS.out] at CO
            obtain ⟨at_, hat⟩ : ∃ a, ofW X.rs xt = a := ⟨_, rfl⟩
            rw [hat] at CO
            have HAT := Lib.hid hat
            obtain ⟨⟨er, X'⟩, hX'⟩ : ∃ q, doP cp (rowsP z1) X ⟨xd, xt, (tb, ky), to_, xl⟩ (j : Int) = q := ⟨_, rfl⟩
            rw [hX'] at HL HLV
            simp only [hX'] at CD
            dsimp only at HL HLV CD
            have YK := Lib.hid (fun (V : World) (g : V.heap[wr.heap.size]? = some (.cells #[.int .i64 xd, .int .i64 xt, .string tb, .string ky, .string to_, .int .i64 xl] 44 (0, 0))) => (⟨cell_of_row _ _ 0 _ _ _ g, cell_of_row _ _ 1 _ _ _ g, cell_of_row _ _ 2 _ _ _ g, cell_of_row _ _ 3 _ _ _ g, cell_of_row _ _ 4 _ _ _ g, cell_of_row _ _ 5 _ _ _ g⟩ : V.cell? ⟨wr.heap.size, 0, none⟩ = some (.int .i64 xd) ∧ V.cell? ⟨wr.heap.size, 1, none⟩ = some (.int .i64 xt) ∧ V.cell? ⟨wr.heap.size, 2, none⟩ = some (.string tb) ∧ V.cell? ⟨wr.heap.size, 3, none⟩ = some (.string ky) ∧ V.cell? ⟨wr.heap.size, 4, none⟩ = some (.string to_) ∧ V.cell? ⟨wr.heap.size, 5, none⟩ = some (.int .i64 xl)))
            have rz := (hbz.block _ (Array.getElem?_eq_some_iff.1 RY.out).1).trans RY.out
            have RZ := Lib.hid rz
            obtain ⟨y0, y1, y2, y3, y4, y5⟩ := YK.out wz rz
            have SOB := Lib.hid hso
            have HBW := Lib.hid (below_next GY.out hbz)
            have HYW := Lib.hid (show wr.heap.size < Y.heap.size ∧ Y.heap.size ≤ wz.heap.size from ⟨(Array.getElem?_eq_some_iff.1 RY.out).1, hbz.size⟩)
            clear hk hkl hbz hso htk hat hX' rz
            go_upto_region 17 with (go_at_call 26; go_loud (refine CO.out.mono ?_; rintro e w5 ⟨rfl, b5⟩; have B5 := Lib.hid b5; clear b5))
            clear y0 y1 y2 y3 y4 y5
            have r5 := (B5.out.block _ (Array.getElem?_eq_some_iff.1 RZ.out).1).trans RZ.out
            have R5 := Lib.hid r5
            obtain ⟨y0, y1, y2, y3, y4, y5⟩ := YK.out w5 r5
            have DF := Lib.hid (show DoIs (fun k => wr.heap.size ≤ k ∧ k < w5.heap.size) w5 w2 p b (rowsP z1) cp X w5 from ⟨G, K, V, ms, HD.out.frame (below_next HBW.out B5.out), HRS.out⟩)
            clear r5
            go_upto_region 18 with (go_at_call 22; go_loud (refine (CD.out _ _ _ DF.out).mono ?_; rintro e w6 ⟨rfl, d6⟩; have D6 := Lib.hid d6; clear d6))
            clear y0 y1 y2 y3 y4 y5
            have hkeep := D6.out.kept
            obtain ⟨y0, y1, -, -, -, -⟩ := YK.out w6 ((hkeep wr.heap.size ⟨Nat.le_refl _, by have := HYW.out; have := B5.out.size; omega⟩).trans R5.out)
            have hso6 := (SOB.out.below B5.out).keep10 (w' := w6) fun k e => hkeep k (by
              obtain ⟨A9, c9, e9, -, -, -, h9⟩ := SOB.out.form
              subst e9
              cases A9 with
              | none => simp [Value.ownBlock] at e
              | some ad =>
                have e8 : ad.block = k := by simpa [Value.ownBlock] using e
                subst e8
                have h10 := h9 ad rfl
                have h11 := (SOB.out.lt10 ad.block (by simp [ownA])).2
                have := HYW.out
                have := B5.out.size
                exact ⟨by omega, by omega⟩)
            obtain ⟨A9, c9, e9, hsb9, -⟩ := hso6.form
            subst e9
            have SB6 := Lib.hid hsb9
            clear hkeep hso6 hsb9
            have D6F := Lib.hid D6.out.free
            by_cases g1 : xd < 1
            · have g1a : decide (xd < 1) = true := by simpa using g1
              go_wp2
              go_roundw
              case rel => exact ⟨j + 1, X', by go_num, HLT.out, D6F.out, HL.out⟩
              case measure => have := HLT.out; simp [intOf]; omega
            have g1a : decide (xd < 1) = false := by simp; omega
            by_cases g2 : xd > 3
            · have g2a : decide (xd > 3) = true := by simpa using g2
              have g2b : decide (3 < xd) = true := by simpa using g2
              go_wp2
              go_roundw
              case rel => exact ⟨j + 1, X', by go_num, HLT.out, D6F.out, HL.out⟩
              case measure => have := HLT.out; simp [intOf]; omega
            have g2a : decide (xd > 3) = false := by simp; omega
            have g2b : decide (3 < xd) = false := by simp; omega
            by_cases g3 : at_ < 0
            · have g3a : decide (at_ < 0) = true := by simpa using g3
              go_wp2
              go_roundw
              case rel => exact ⟨j + 1, X', by go_num, HLT.out, D6F.out, HL.out⟩
              case measure => have := HLT.out; simp [intOf]; omega
            have g3a : decide (at_ < 0) = false := by simp; omega
            obtain ⟨i, LV, hati⟩ : ∃ i : Nat, LevIs X X' er xt i ∧ at_ = (i : Int) := by
              rcases ofW_is X.rs xt with ⟨h1, -⟩ | ⟨i, r, h1, hi, htx, hov⟩
              · rw [HAT.out] at h1; omega
              · exact ⟨i, HLV.out ⟨by omega, by omega⟩ i r h1 hi htx hov, by rw [HAT.out] at h1; exact h1⟩
            subst hati
            have HI5 := Lib.hid HL.out.inv
            have HML2 := Lib.hid (show X'.rs.length ≤ 1048576 by have h1 := HL.out.cnt.n; have h2 := HN.out; have h3 := HLT.out; omega)
            have BDX2 := Lib.hid (show Bd10 X'.S from Inv10.bd HI5.out (by have := HML2.out; omega) (by have h2 := HN.out; have h3 := HLT.out; omega))
            have HTX2 := Lib.hid HI5.out.tx
            obtain ⟨G2, K2, V2, ms2, D62, hms2⟩ := D6F.out
            have HRS2 := Lib.hid hms2
            have HML2 := Lib.hid (show ms2.length ≤ 1048576 by have := HML2.out; rw [← hms2, List.length_map] at this; exact this)
            have hwx : (Lit.int .i64 xt).wf = true := wf_ofX HO.out.rt
            have CSN := Lib.hid (fun n => w10Snap (D62.bel (bel_drewN w6 n)).m BDX2.out hwx)
            obtain ⟨sn, hsn⟩ : ∃ s, (of10 X'.S xt).1 = s := ⟨_, rfl⟩
            obtain ⟨ec, hec⟩ : ∃ s, (of10 X'.S xt).2.2 = s := ⟨_, rfl⟩
            simp only [hsn, hec] at CSN
            have hme := LV.me
            rw [hec] at hme
            have p0 := D62.d.cells.1
            have HD62 := Lib.hid D62
            clear hms2 hwx hsn hec D62
            go_upto_region 19 with fail
            clear g1 g2 g3 g1a g2a g2b g3a
            go_quiet ((go_at_call 30; (try simp only [World.drewN_drewN]); exact Calls.quiet_of_same (CSN.out _)))
            obtain ⟨w7, hw7⟩ : ∃ W, w6.drewN nq = W := ⟨_, rfl⟩
            have b7 : Below w6.heap.size w6 w7 := by rw [← hw7]; exact bel_drewN _ _
            have D7 := Lib.hid (HD62.out.bel b7)
            have p3 := D7.out.d.cells.2.2.2.1
            have LST := Lib.hid (show Lst w7 p V2.la V2.lc ms2 from ⟨p3, D7.out.d.list.sb10, fun m hm => (D7.out.d.runs m hm).2.sb10⟩)
            have HLN2 := Lib.hid (show ms2.length = ms.length by have h1 := LV.len; rw [← HRS2.out, ← HRS.out, List.length_map, List.length_map] at h1; exact h1)
            have SBW := Lib.hid (show SB w7 A9 (2 * (befF X.S X.rs).length) (cellsF flC (befF X.S X.rs)) by
              have h1 := SB6.out.gw b7
              have h2 : (befF X.S X.rs).length = ms.length := by unfold befF; rw [List.length_map]; exact HLN.out
              rw [h2]; exact h1)
            rw [hw7]
            clear p0 hw7 b7 y0 y1
            by_cases he : er = 0
            rotate_left
            · have hq2 : ec = 101 := hme.2 he
              have hq3 : (er != 0) = true := by simpa using he
              have HE := Lib.hid he
              subst hq2
              clear hme
              go_upto_region 23 with fail
              clear p3
              go_loopw [106] (fun i2 wq => ∃ k : Nat, i2 = .int .i64 (k : Nat) ∧ k ≤ ms2.length ∧ Below w7.heap.size w7 wq) (fun i2 _ => ms2.length - (intOf i2).toNat)
              case atStart => exact ⟨0, rfl, Nat.zero_le _, Below.refl _ _⟩
              case round =>
                rename World => wq
                obtain ⟨k, rfl, hk, hbq⟩ := hrel
                by_cases hkl : k < ms2.length
                · obtain ⟨y, hy⟩ : ∃ y, ms2[k]? = some y := ⟨_, List.getElem?_eq_getElem hkl⟩
                  have hyr : X'.rs[k]? = some y.r := by rw [← HRS2.out, List.getElem?_map, hy]; rfl
                  have DZ0 := D7.out.bel hbq
                  obtain ⟨g', o', hgo, q0, q1, q2, q3, q4, q5, q6, q7⟩ := (LST.out.gw hbq).at_ hy
                  obtain ⟨Z, hZ⟩ : ∃ Z, wq.alloc (.cells #[.int .i64 y.r.tx, .int .i64 y.r.snap, .int .i64 y.r.begun, .int .i64 y.r.ended, .bool y.r.com, .bool y.r.over, .slice y.ra y.r.reads.length y.rc, .slice y.wa y.r.writes.length y.wc] 70) = Z := ⟨_, rfl⟩
                  have HZ := Lib.hid hZ
                  obtain ⟨gZ, b0, -, -, -, b5, -⟩ := run_row y Z hZ
                  have hyt := HTX2.out k y.r hyr
                  have hwf : (Lit.int .i64 y.r.tx).wf = true := wf_ofX (by have := HML2.out; omega)
                  have CF := Lib.hid (fun W (g : Below Z.heap.size Z W) => w10Flags ((DZ0.bel gZ).bel g).m BDX2.out hwf)
                  obtain ⟨⟨f1, f2⟩, hf⟩ : ∃ f, (of10 X'.S y.r.tx).2.1 = f := ⟨_, rfl⟩
                  simp only [hf, flagV] at CF
                  obtain ⟨ek, hef⟩ : ∃ e, (of10 X'.S y.r.tx).2.2 = e := ⟨_, rfl⟩
                  simp only [hef] at CF
                  have OTH := Lib.hid (fun hne ho => LV.oth k y.r hne hyr ho)
                  have HFF := Lib.hid hf
                  have HEK := Lib.hid hef
                  have p0 := (DZ0.bel gZ).d.cells.1
                  have HBZ := Lib.hid (below_next hbq gZ)
                  obtain ⟨⟨ytx, ysn, ybg, yen, yco, yov, yrd, ywr⟩, yra, yrc, ywa, ywc⟩ := y
                  dsimp only at q0 q1 q2 q3 q4 q5 q6 q7 b0 b5 HZ CF OTH HFF HEK
                  have i3 : (k : Int) < (ms2.length : Int) := by omega
                  have l3 : (k : Int) ≤ 1048576 := by have := HML2.out; omega
                  have HKL := Lib.hid hkl
                  rw [hgo]
                  clear hk hkl hy hyr hZ gZ hyt hwf hf hef DZ0
                  go_upto_region 25 with fail
                  rw [HZ.out]
                  clear q0 q1 q2 q3 q4 q5 q6 q7 hgo
                  have S0 : Z.cell? ⟨p, 0, none⟩ = some (.pointer (some ⟨b, 0, none⟩)) ∧ Z.cell? ⟨wq.heap.size, 0, none⟩ = some (.int .i64 ytx) := ⟨p0, b0⟩
                  have SK := Lib.hid (fun V (g : Below Z.heap.size Z V) => (⟨keep_below S0.1 g, keep_below S0.2 g⟩ : V.cell? ⟨p, 0, none⟩ = some (.pointer (some ⟨b, 0, none⟩)) ∧ V.cell? ⟨wq.heap.size, 0, none⟩ = some (.int .i64 ytx)))
                  have KA := Lib.hid (alloc_below10 Z (.cells #[.bool false, .bool false] 79))
                  have SG := (SK.out _ KA.out)
                  have ra : (Z.alloc (.cells #[.bool false, .bool false] 79)).heap[Z.heap.size]? = some (.cells #[.bool false, .bool false] 79 (0, 0)) := heap_alloc_new _ _
                  have RA := Lib.hid (fun V (g : Below (Z.alloc (.cells #[.bool false, .bool false] 79)).heap.size (Z.alloc (.cells #[.bool false, .bool false] 79)) V) => (g.block _ (Array.getElem?_eq_some_iff.1 ra).1).trans ra)
                  go_cut [20, 21] (fun v20 v21 wx => ∃ g, v20 = .pointer (some ⟨g, 0, none⟩) ∧ v21 = .int .i64 ek ∧ wx.cell? ⟨g, 0, none⟩ = some (.bool f1) ∧ wx.cell? ⟨g, 1, none⟩ = some (.bool f2) ∧ Below Z.heap.size Z wx)
                  case first =>
                    go_region_held3 (fun w' => w'.cell? ⟨p, 0, none⟩ = some (.pointer (some ⟨b, 0, none⟩)) ∧ w'.cell? ⟨wq.heap.size, 0, none⟩ = some (.int .i64 ytx))
                      (first | exact S0 | exact SG | exact SA | exact SF.out _ (alloc_below10 _ _) | exact SE.out _ _)
                      (first
                        | (go_at_call 29; refine (CF.out _ (Below.refl _ _).drew).mono ?_; rintro e w8 ⟨rfl, b8⟩; have B8 := Lib.hid (below_next (Below.refl Z.heap.size Z).drew b8); have SA := SK.out w8 B8.out; have SF := Lib.hid (fun V (g : Below w8.heap.size w8 V) => SK.out V (below_next B8.out g)); have EV := Lib.hid (heap_alloc_new w8 (.cells #[.bool f1, .bool f2] 79)); clear b8)
                        | (go_at_call 29; refine (CF.out _ (below_next KA.out (Below.refl _ _).drew)).mono ?_; rintro e w8 ⟨rfl, b8⟩; have bA := below_next (Below.refl (Z.alloc (.cells #[.bool false, .bool false] 79)).heap.size (Z.alloc (.cells #[.bool false, .bool false] 79))).drew b8; have B8 := Lib.hid (below_next KA.out bA); have SA := SK.out w8 B8.out; have SF := Lib.hid (fun V (g : Below w8.heap.size w8 V) => SK.out V (below_next B8.out g)); have r8 := RA.out w8 bA; have R8 := Lib.hid r8; have y0 : w8.cell? ⟨Z.heap.size, 0, none⟩ = some (.bool false) := cell_of_row _ _ 0 _ _ _ r8; have y1 : w8.cell? ⟨Z.heap.size, 1, none⟩ = some (.bool false) := cell_of_row _ _ 1 _ _ _ r8; have h0 : w8.frozen? ⟨Z.heap.size, 0, none⟩ = false := frozen_of_row _ _ _ _ _ r8; have h1 : w8.frozen? ⟨Z.heap.size, 1, none⟩ = false := frozen_of_row _ _ _ _ _ r8; have SE := Lib.hid (fun x0 x1 : Value => SK.out ((w8.setCell ⟨Z.heap.size, 0, none⟩ x0).setCell ⟨Z.heap.size, 1, none⟩ x1) ((B8.out.setCell (by exact Nat.le_refl _) x0).setCell (by exact Nat.le_refl _) x1)); clear b8 bA r8))
                    · go_wp2
                      go_meet
                      exact ⟨w8.heap.size, rfl, rfl, cell_of_row _ _ 0 _ _ _ EV.out, cell_of_row _ _ 1 _ _ _ EV.out, below_next B8.out (alloc_below10 _ _)⟩
                    · go_wp2
                      go_meet
                      have r2 := heap_setCell_same _ Z.heap.size 1 _ _ (.bool f2) (heap_setCell_same w8 Z.heap.size 0 _ _ (.bool f1) R8.out)
                      exact ⟨Z.heap.size, rfl, rfl, cell_of_row _ _ 0 _ _ _ r2, cell_of_row _ _ 1 _ _ _ r2, (B8.out.setCell (by exact Nat.le_refl _) _).setCell (by exact Nat.le_refl _) _⟩
                  case rest =>
                    obtain ⟨g, rfl, rfl, v0, v1, bc⟩ := hcut
                    have HBC := Lib.hid (below_next HBZ.out bc)
                    replace b5 := keep_below b5 bc
                    clear S0 SG ra b0 p0
                    by_cases hki : k = i
                    · have e1 : (k : Int) = (i : Int) := by omega
                      clear hbq bc
                      go_wp2
                      go_roundw
                      case rel => exact ⟨k + 1, by go_num, HKL.out, HBC.out⟩
                      case measure => have := HKL.out; simp [intOf]; omega
                    have e1 : ((k : Int) == (i : Int)) = false := by simp; omega
                    cases yov
                    rotate_left
                    · clear hbq bc
                      go_wp2
                      go_roundw
                      case rel => exact ⟨k + 1, by go_num, HKL.out, HBC.out⟩
                      case measure => have := HKL.out; simp [intOf]; omega
                    obtain ⟨hx1, hx2, hx3⟩ := OTH.out hki rfl
                    have hek0 : ek = 0 := HEK.out.symm.trans hx2
                    subst hek0
                    go_upto_region 27 with fail
                    have hbk : (befF X.S X.rs)[k]? = some (f1, f2) := by
                      unfold befF
                      rw [List.getElem?_map, hx1, Option.map_some, ← hx3 HE.out, HFF.out]
                    obtain ⟨g9, o9, hg9, hc9⟩ := (SBW.out.gw HBC.out).el flC_len (by omega) hbk
                    subst hg9
                    have j0 : wc.cell? ⟨g9, o9 + k * 2, none⟩ = some (.bool f1) := hc9 0 _ rfl
                    have j1 : wc.cell? ⟨g9, o9 + k * 2 + 1, none⟩ = some (.bool f2) := hc9 1 _ rfl
                    have qN := fun W => neqFl W f1 f2
                    have i5 : (k : Int) < (ms.length : Int) := by have := HKL.out; have := HLN2.out; omega
                    clear hc9 hbk
                    clear hx1 hx2 hx3 hbq bc
                    go_quiet (fail)
                    go_wp2
                    go_roundw
                    case rel => exact ⟨k + 1, by go_num, HKL.out, below_next HBC.out (bel_drewN _ _)⟩
                    case measure => have := HKL.out; simp [intOf]; omega
                · obtain rfl : k = ms2.length := by omega
                  have i3 : ¬ (ms2.length : Int) < (ms2.length : Int) := by omega
                  have DW := Lib.hid (D7.out.bel hbq)
                  clear hk hkl hbq
                  go_wp2
                  go_roundw
                  case rel => exact ⟨j + 1, X', by go_num, HLT.out, ⟨G2, K2, V2, ms2, DW.out, HRS2.out⟩, HL.out⟩
                  case measure => have := HLT.out; simp [intOf]; omega
            · have hq2 : (ec == 101) = false := by
                have := fun e => hme.1 e he
                simpa using this
              clear hme
              subst he
              go_upto_region 23 with fail
              clear p3
              go_loopw [106] (fun i2 wq => ∃ k : Nat, i2 = .int .i64 (k : Nat) ∧ k ≤ ms2.length ∧ Below w7.heap.size w7 wq) (fun i2 _ => ms2.length - (intOf i2).toNat)
              case atStart => exact ⟨0, rfl, Nat.zero_le _, Below.refl _ _⟩
              case round =>
                rename World => wq
                obtain ⟨k, rfl, hk, hbq⟩ := hrel
                by_cases hkl : k < ms2.length
                · obtain ⟨y, hy⟩ : ∃ y, ms2[k]? = some y := ⟨_, List.getElem?_eq_getElem hkl⟩
                  have hyr : X'.rs[k]? = some y.r := by rw [← HRS2.out, List.getElem?_map, hy]; rfl
                  have DZ0 := D7.out.bel hbq
                  obtain ⟨g', o', hgo, q0, q1, q2, q3, q4, q5, q6, q7⟩ := (LST.out.gw hbq).at_ hy
                  obtain ⟨Z, hZ⟩ : ∃ Z, wq.alloc (.cells #[.int .i64 y.r.tx, .int .i64 y.r.snap, .int .i64 y.r.begun, .int .i64 y.r.ended, .bool y.r.com, .bool y.r.over, .slice y.ra y.r.reads.length y.rc, .slice y.wa y.r.writes.length y.wc] 70) = Z := ⟨_, rfl⟩
                  have HZ := Lib.hid hZ
                  obtain ⟨gZ, b0, -, -, -, b5, -⟩ := run_row y Z hZ
                  have hyt := HTX2.out k y.r hyr
                  have hwf : (Lit.int .i64 y.r.tx).wf = true := wf_ofX (by have := HML2.out; omega)
                  have CF := Lib.hid (fun W (g : Below Z.heap.size Z W) => w10Flags ((DZ0.bel gZ).bel g).m BDX2.out hwf)
                  obtain ⟨⟨f1, f2⟩, hf⟩ : ∃ f, (of10 X'.S y.r.tx).2.1 = f := ⟨_, rfl⟩
                  simp only [hf, flagV] at CF
                  obtain ⟨ek, hef⟩ : ∃ e, (of10 X'.S y.r.tx).2.2 = e := ⟨_, rfl⟩
                  simp only [hef] at CF
                  have OTH := Lib.hid (fun hne ho => LV.oth k y.r hne hyr ho)
                  have HFF := Lib.hid hf
                  have HEK := Lib.hid hef
                  have p0 := (DZ0.bel gZ).d.cells.1
                  have HBZ := Lib.hid (below_next hbq gZ)
                  obtain ⟨⟨ytx, ysn, ybg, yen, yco, yov, yrd, ywr⟩, yra, yrc, ywa, ywc⟩ := y
                  dsimp only at q0 q1 q2 q3 q4 q5 q6 q7 b0 b5 HZ CF OTH HFF HEK
                  have i3 : (k : Int) < (ms2.length : Int) := by omega
                  have l3 : (k : Int) ≤ 1048576 := by have := HML2.out; omega
                  have HKL := Lib.hid hkl
                  rw [hgo]
                  clear hk hkl hy hyr hZ gZ hyt hwf hf hef DZ0
                  go_upto_region 25 with fail
                  rw [HZ.out]
                  clear q0 q1 q2 q3 q4 q5 q6 q7 hgo
                  have S0 : Z.cell? ⟨p, 0, none⟩ = some (.pointer (some ⟨b, 0, none⟩)) ∧ Z.cell? ⟨wq.heap.size, 0, none⟩ = some (.int .i64 ytx) := ⟨p0, b0⟩
                  have SK := Lib.hid (fun V (g : Below Z.heap.size Z V) => (⟨keep_below S0.1 g, keep_below S0.2 g⟩ : V.cell? ⟨p, 0, none⟩ = some (.pointer (some ⟨b, 0, none⟩)) ∧ V.cell? ⟨wq.heap.size, 0, none⟩ = some (.int .i64 ytx)))
                  have KA := Lib.hid (alloc_below10 Z (.cells #[.bool false, .bool false] 79))
                  have SG := (SK.out _ KA.out)
                  have ra : (Z.alloc (.cells #[.bool false, .bool false] 79)).heap[Z.heap.size]? = some (.cells #[.bool false, .bool false] 79 (0, 0)) := heap_alloc_new _ _
                  have RA := Lib.hid (fun V (g : Below (Z.alloc (.cells #[.bool false, .bool false] 79)).heap.size (Z.alloc (.cells #[.bool false, .bool false] 79)) V) => (g.block _ (Array.getElem?_eq_some_iff.1 ra).1).trans ra)
                  go_cut [20, 21] (fun v20 v21 wx => ∃ g, v20 = .pointer (some ⟨g, 0, none⟩) ∧ v21 = .int .i64 ek ∧ wx.cell? ⟨g, 0, none⟩ = some (.bool f1) ∧ wx.cell? ⟨g, 1, none⟩ = some (.bool f2) ∧ Below Z.heap.size Z wx)
                  case first =>
                    go_region_held3 (fun w' => w'.cell? ⟨p, 0, none⟩ = some (.pointer (some ⟨b, 0, none⟩)) ∧ w'.cell? ⟨wq.heap.size, 0, none⟩ = some (.int .i64 ytx))
                      (first | exact S0 | exact SG | exact SA | exact SF.out _ (alloc_below10 _ _) | exact SE.out _ _)
                      (first
                        | (go_at_call 29; refine (CF.out _ (Below.refl _ _).drew).mono ?_; rintro e w8 ⟨rfl, b8⟩; have B8 := Lib.hid (below_next (Below.refl Z.heap.size Z).drew b8); have SA := SK.out w8 B8.out; have SF := Lib.hid (fun V (g : Below w8.heap.size w8 V) => SK.out V (below_next B8.out g)); have EV := Lib.hid (heap_alloc_new w8 (.cells #[.bool f1, .bool f2] 79)); clear b8)
                        | (go_at_call 29; refine (CF.out _ (below_next KA.out (Below.refl _ _).drew)).mono ?_; rintro e w8 ⟨rfl, b8⟩; have bA := below_next (Below.refl (Z.alloc (.cells #[.bool false, .bool false] 79)).heap.size (Z.alloc (.cells #[.bool false, .bool false] 79))).drew b8; have B8 := Lib.hid (below_next KA.out bA); have SA := SK.out w8 B8.out; have SF := Lib.hid (fun V (g : Below w8.heap.size w8 V) => SK.out V (below_next B8.out g)); have r8 := RA.out w8 bA; have R8 := Lib.hid r8; have y0 : w8.cell? ⟨Z.heap.size, 0, none⟩ = some (.bool false) := cell_of_row _ _ 0 _ _ _ r8; have y1 : w8.cell? ⟨Z.heap.size, 1, none⟩ = some (.bool false) := cell_of_row _ _ 1 _ _ _ r8; have h0 : w8.frozen? ⟨Z.heap.size, 0, none⟩ = false := frozen_of_row _ _ _ _ _ r8; have h1 : w8.frozen? ⟨Z.heap.size, 1, none⟩ = false := frozen_of_row _ _ _ _ _ r8; have SE := Lib.hid (fun x0 x1 : Value => SK.out ((w8.setCell ⟨Z.heap.size, 0, none⟩ x0).setCell ⟨Z.heap.size, 1, none⟩ x1) ((B8.out.setCell (by exact Nat.le_refl _) x0).setCell (by exact Nat.le_refl _) x1)); clear b8 bA r8))
                    · go_wp2
                      go_meet
                      exact ⟨w8.heap.size, rfl, rfl, cell_of_row _ _ 0 _ _ _ EV.out, cell_of_row _ _ 1 _ _ _ EV.out, below_next B8.out (alloc_below10 _ _)⟩
                    · go_wp2
                      go_meet
                      have r2 := heap_setCell_same _ Z.heap.size 1 _ _ (.bool f2) (heap_setCell_same w8 Z.heap.size 0 _ _ (.bool f1) R8.out)
                      exact ⟨Z.heap.size, rfl, rfl, cell_of_row _ _ 0 _ _ _ r2, cell_of_row _ _ 1 _ _ _ r2, (B8.out.setCell (by exact Nat.le_refl _) _).setCell (by exact Nat.le_refl _) _⟩
                  case rest =>
                    obtain ⟨g, rfl, rfl, v0, v1, bc⟩ := hcut
                    have HBC := Lib.hid (below_next HBZ.out bc)
                    replace b5 := keep_below b5 bc
                    clear S0 SG ra b0 p0
                    by_cases hki : k = i
                    · have e1 : (k : Int) = (i : Int) := by omega
                      clear hbq bc
                      go_wp2
                      go_roundw
                      case rel => exact ⟨k + 1, by go_num, HKL.out, HBC.out⟩
                      case measure => have := HKL.out; simp [intOf]; omega
                    have e1 : ((k : Int) == (i : Int)) = false := by simp; omega
                    cases yov
                    rotate_left
                    · clear hbq bc
                      go_wp2
                      go_roundw
                      case rel => exact ⟨k + 1, by go_num, HKL.out, HBC.out⟩
                      case measure => have := HKL.out; simp [intOf]; omega
                    obtain ⟨hx1, hx2, hx3⟩ := OTH.out hki rfl
                    have hek0 : ek = 0 := HEK.out.symm.trans hx2
                    subst hek0
                    go_upto_region 27 with fail
                    clear hx1 hx2 hx3 hbq bc
                    go_quiet (fail)
                    go_wp2
                    go_roundw
                    case rel => exact ⟨k + 1, by go_num, HKL.out, below_next HBC.out (bel_drewN _ _)⟩
                    case measure => have := HKL.out; simp [intOf]; omega
                · obtain rfl : k = ms2.length := by omega
                  have i3 : ¬ (ms2.length : Int) < (ms2.length : Int) := by omega
                  have DW := Lib.hid (D7.out.bel hbq)
                  clear hk hkl hbq
                  go_wp2
                  go_roundw
                  case rel => exact ⟨j + 1, X', by go_num, HLT.out, ⟨G2, K2, V2, ms2, DW.out, HRS2.out⟩, HL.out⟩
                  case measure => have := HLT.out; simp [intOf]; omega
      · obtain rfl : j = n1 := by omega
        have i1 : ¬ (j : Int) < (j : Int) := by omega
        obtain ⟨-, -, -, -, -, -, -, p4⟩ := hD.cells
        have HBR := Lib.hid (below_next B2.out hD.bel)
        clear hj hlt hD hL
        go_wp2
        go_ret
        exact ⟨rfl, HBR.out⟩
end Go.Proofs.YtknppiebncdjmaaGreat
