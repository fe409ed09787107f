/- Layer 11: the program's right and Check, walked. -/
import Derived.Test.YtnpeankmmojebaaGreatDoorJAO
set_option linter.unusedVariables false
namespace Go.Proofs.YtnpeankmmojebaaGreatDoor
set_option maxRecDepth 100000
set_option maxRecDepth 100000
open Go.RowKit Go.Maps Go.ChangeMaps Go.MapKept

set_option maxHeartbeats 32000000 in
theorem wsRight {w : World} {A B : Option Addr} {n c m d : Nat} {cs : List Int} {ac : List Ac} (h : Hist w A n c B m d cs ac) (hn : n ≤ 4096) (hm : m ≤ 4096) :
    Calls Tryz.prog 41 #[histV A n c B m d] w fun e w' => e = .returned (.bool (rightB cs ac)) ∧ Below w.heap.size w w' := by
  obtain ⟨W0, hW0⟩ : ∃ W, w.alloc (.cells #[.slice A n c, .slice B m d] 25) = W := ⟨_, rfl⟩
  have b0 : Below w.heap.size w W0 := by rw [← hW0]; exact alloc_below11 _ _
  have s0 : W0.heap.size = w.heap.size + 1 := by rw [← hW0]; simp
  have q0 : W0.heap[w.heap.size]? = some (.cells #[.slice A n c, .slice B m d] 25 (0, 0)) := by rw [← hW0]; exact heap_alloc_new _ _
  have x0 : W0.cell? ⟨w.heap.size, 0, none⟩ = some (.slice A n c) := cell_of_row _ _ 0 _ _ _ q0
  have x1 : W0.cell? ⟨w.heap.size, 1, none⟩ = some (.slice B m d) := cell_of_row _ _ 1 _ _ _ q0
  have h0 := h.gw b0
  have CP := Lib.hid (wsPlaces (c := c) h0.cb h0.cl h0.cw (by omega))
  have H0 := Lib.hid h0
  have B0 := Lib.hid b0
  have S0 := Lib.hid s0
  have HN := Lib.hid hn
  have HM := Lib.hid hm
  have HW0 := Lib.hid hW0
  clear h hn hm b0 s0 q0 h0 hW0
  have HR := Lib.hid (show rightB cs ac = ((decide cs.Nodup && !cs.any fun x => decide (x < 1)) && ((ac.all fun a => decide (a.txn ∈ cs)) && ac.all (fitsP (cntW ac)))) from rfl)
  unfold histV
  by_cases hnd : cs.Nodup
  · rw [show decide cs.Nodup = true by simpa using hnd] at CP HR
    cases hlow : cs.any fun x => decide (x < 1)
    · rw [hlow] at HR
      go_enter Tryz.func41, Tryz.ntmps41
      go_upto_region 1 with fail
      rw [HW0.out]
      go_upto_region 6 with (first
        | (go_at_call 42; go_loud (refine CP.out.mono ?_; rintro e w1 ⟨r1, rfl, m1, g1, b1⟩; have M1 := Lib.hid m1; have B1 := Lib.hid b1; have H1 := Lib.hid (H0.out.gw b1); have y0 := keep_below x0 b1; have y1 := keep_below x1 b1; have CL := Lib.hid (wsHasLow (c := c) (H0.out.gw b1).cb H0.out.cl HN.out); have hlt1 := m1.lt; have G1 := Lib.hid (show r1 < w1.heap.size from hlt1); clear hlt1 m1 b1; rw [hlow] at CL; obtain ⟨W4, hW4⟩ : ∃ W, w1.alloc (.map #[] 0) = W := ⟨_, rfl⟩; have HW4 := Lib.hid hW4; have b4 : Below w1.heap.size w1 W4 := hW4 ▸ alloc_below11 w1 _; have rm : (Instr.makeMap mapVI none).run Tryz.prog w1 = .ok (.map (some w1.heap.size)) W4 := hW4 ▸ rfl; have z0 := keep_below y0 b4; have z1 := keep_below y1 b4; have M4 := Lib.hid (show MapM KV W4 w1.heap.size [] from hW4 ▸ MapM.new KV w1); have B4 := Lib.hid b4; have S4 := Lib.hid (show W4.heap.size = w1.heap.size + 1 by have := congrArg (fun W => W.heap.size) hW4; simpa using this.symm); clear b4 hW4))
        | (go_at_call 62; go_loud (refine CL.out.mono ?_; rintro e w2 ⟨rfl, hw⟩; replace hw := hw.symm; subst hw)))
      have HC := Lib.hid (show w.heap.size ≠ w1.heap.size by have := B1.out.size; have := S0.out; omega)
      clear x0 x1 y0 y1
      go_loopw [29] (fun i wr => ∃ (j : Nat) (hs : List (Vr × Value)), i = .int .i64 (j : Nat) ∧ j ≤ m ∧ MapM KV wr w1.heap.size hs ∧ (∀ v, (getM hs v).getD (.int .i64 0) = .int .i64 (cntW (ac.take j) v)) ∧ hs.length ≤ j ∧ ((ac.take j).all fun a => decide (a.txn ∈ cs)) = true ∧ Out (fun k => k = w1.heap.size) W4 wr) (fun i _ => m - (intOf i).toNat)
      case atStart => exact ⟨0, [], rfl, Nat.zero_le _, M4.out, fun v => rfl, Nat.le_refl _, by simp, Out.refl _ _⟩
      case round =>
        rename World => wr
        obtain ⟨j, hs, rfl, hj, hmv, hcnt, hlen, hall, hout⟩ := hrel
        by_cases hlt : j < m
        · obtain ⟨a, ha⟩ : ∃ a, ac[j]? = some a := ⟨_, List.getElem?_eq_getElem (by rw [H0.out.al]; exact hlt)⟩
          have gw4 : Below w1.heap.size w1 wr := B4.out.trans (hout.below (by have := S4.out; omega) fun i hi e => by omega)
          obtain ⟨g, o, rfl, c0, c1, c2, c3⟩ := (H1.out.gw gw4).act ha
          have y1 := hout.cell z1 HC.out
          have HAW := Lib.hid (H1.out.aw a (List.mem_of_getElem? ha))
          have HCT := Lib.hid (cntW_next ha)
          have HTK := Lib.hid (show (ac.take (j + 1)).all (fun a => decide (a.txn ∈ cs)) = ((ac.take j).all (fun a => decide (a.txn ∈ cs)) && decide (a.txn ∈ cs)) by rw [List.take_add_one, ha]; simp [List.all_append])
          have HAM := Lib.hid (List.mem_of_getElem? ha)
          obtain ⟨X, hX⟩ : ∃ X, wr.alloc (.cells #[.int .i64 a.txn, .bool a.wr, .string a.item, .int .i64 a.ver] 44) = X := ⟨_, rfl⟩
          have bX : Below wr.heap.size wr X := by rw [← hX]; exact alloc_below11 _ _
          have qX : X.heap[wr.heap.size]? = some (.cells #[.int .i64 a.txn, .bool a.wr, .string a.item, .int .i64 a.ver] 44 (0, 0)) := by rw [← hX]; exact heap_alloc_new _ _
          have d0 : X.cell? ⟨wr.heap.size, 0, none⟩ = some (.int .i64 a.txn) := cell_of_row _ _ 0 _ _ _ qX
          have d1 : X.cell? ⟨wr.heap.size, 1, none⟩ = some (.bool a.wr) := cell_of_row _ _ 1 _ _ _ qX
          have d2 : X.cell? ⟨wr.heap.size, 2, none⟩ = some (.string a.item) := cell_of_row _ _ 2 _ _ _ qX
          have d3 : X.cell? ⟨wr.heap.size, 3, none⟩ = some (.int .i64 a.ver) := cell_of_row _ _ 3 _ _ _ qX
          have mr1 : MapM KN X r1 (plM cs n) := (M1.out.block (gw4.block _ G1.out)).block (bX.block _ (by have := gw4.size; have := G1.out; omega))
          have lk : (Instr.lookup mapII (.map (some r1)) (.int .i64 a.txn) true).run Tryz.prog X = .ok (.tuple #[(getM (plM cs n) a.txn).getD (.int .i64 0), .bool (getM (plM cs n) a.txn).isSome]) X := mr1.look11 mapII_und (zeroI X) (x := a.txn) HAW.out.1
          rw [plM_has, show cs.take n = cs by rw [← H0.out.cl]; exact List.take_length] at lk
          generalize (getM (plM cs n) a.txn).getD (.int .i64 0) = v at lk
          have oX : Out (fun k => k = w1.heap.size) W4 X := hout.then (Out.of_below bX _)
          have mX : MapM KV X w1.heap.size hs := hmv.block (bX.block _ hmv.lt)
          have i1 : (j : Int) < (m : Int) := by omega
          have l1 : (j : Int) ≤ 4096 := by have := HM.out; omega
          have HLT := Lib.hid hlt
          have OX := Lib.hid oX
          have MX := Lib.hid mX
          have BX := Lib.hid bX
          have HX := Lib.hid hX
          have HCN := Lib.hid hcnt
          have HLE := Lib.hid hlen
          have HAL := Lib.hid hall
          have HO := Lib.hid hout
          have HMX := Lib.hid hmv.lt
          clear ha gw4 bX qX mr1 oX mX hlt hj hX hcnt hlen hall hout hmv
          obtain ⟨at_, aw, ai, av⟩ := a
          dsimp only at *
          by_cases hin : at_ ∈ cs
          · rw [show decide (at_ ∈ cs) = true by simpa using hin] at lk
            have HT := Lib.hid (show (ac.take (j + 1)).all (fun a => decide (a.txn ∈ cs)) = true by rw [HTK.out, HAL.out]; simpa using hin)
            clear hin
            cases aw
            · go_upto_region 8 with fail
              rw [HX.out]
              clear c0 c1 c2 c3
              go_wp2
              go_roundw
              case rel => exact ⟨j + 1, hs, by go_num, HLT.out, MX.out, fun v => by rw [HCN.out, HCT.out]; simp, by have := HLE.out; omega, HT.out, OX.out⟩
              case measure => have := HLT.out; simp [intOf]; omega
            · obtain ⟨st, X1, hs1, me, m1, g1, o1, es⟩ := (show MapM KV X.drew w1.heap.size hs from MX.out).entry (x := (ai, at_)) ⟨HAW.out.2.2, HAW.out.1⟩ (by have := HLE.out; have := HLT.out; have := HM.out; omega)
              have hl0 := (show MapM KV X.drew w1.heap.size hs from MX.out).look mapVI_und (zeroI X.drew) (x := (ai, at_)) ⟨HAW.out.2.2, HAW.out.1⟩
              have hl1 := m1.look mapVI_und (zeroI X1) (x := (ai, at_)) ⟨HAW.out.2.2, HAW.out.1⟩
              rw [g1, HCN.out] at hl1
              rw [HCN.out] at hl0 me
              have hq := cntW_le ac j (ai, at_)
              obtain ⟨q, hq'⟩ : ∃ q, cntW (ac.take j) (ai, at_) = q := ⟨_, rfl⟩
              rw [hq'] at hl0 hl1 me hq
              obtain ⟨X2, es2, m2, o2⟩ := es (.int .i64 (q + 1))
              have hl0 : (Instr.lookup mapVI (.map (some w1.heap.size)) (.agg #[.string ai, .int .i64 at_]) false).run Tryz.prog X.drew = .ok (.int .i64 q) X.drew := hl0
              have hl1 : (Instr.lookup mapVI (.map (some w1.heap.size)) (.agg #[.string ai, .int .i64 at_]) false).run Tryz.prog X1 = .ok (.int .i64 q) X1 := hl1
              have me : (Instr.mapEntry mapVI (.map (some w1.heap.size)) (.agg #[.string ai, .int .i64 at_])).run Tryz.prog X.drew = .ok (.tuple #[.int .i64 q, .int .i64 (st : Nat)]) X1 := me
              have hne : wr.heap.size ≠ w1.heap.size := by have := HMX.out; omega
              have e0 : X1.cell? ⟨wr.heap.size, 0, none⟩ = some (.int .i64 at_) := o1.cell (w := X.drew) d0 hne
              have e2 : X1.cell? ⟨wr.heap.size, 2, none⟩ = some (.string ai) := o1.cell (w := X.drew) d2 hne
              have l3 : q + 1 ≤ 4097 := by have := HLT.out; have := HM.out; omega
              have l4 : 0 ≤ q := hq.1
              have HQ := Lib.hid hq'
              have M2 := Lib.hid m2
              have O2 := Lib.hid o2
              clear hne hq hq' m1 g1 o1 es m2 o2
              go_upto_region 8 with fail
              rw [HX.out]
              clear c0 c1 c2 c3
              go_upto_region 12 with fail
              go_region
              go_wp2
              go_roundw
              case rel =>
                refine ⟨j + 1, putM hs (ai, at_) (.int .i64 (q + 1)), by go_num, HLT.out, M2.out, fun v => ?_, ?_, HT.out, OX.out.then ((Out.refl _ X).drew.then O2.out)⟩
                · rw [getM_put, HCT.out]
                  by_cases e : v = (ai, at_)
                  · subst e; rw [if_pos rfl, if_pos ⟨rfl, rfl⟩, HQ.out]; rfl
                  · rw [if_neg e, if_neg (fun k => e k.2)]; exact HCN.out v
                · rw [putM_len MX.out.once]
                  have := HLE.out
                  split <;> omega
              case measure => have := HLT.out; simp [intOf]; omega
          · rw [show decide (at_ ∈ cs) = false by simpa using hin] at lk
            have HF := Lib.hid (show rightB cs ac = false by
              rw [HR.out, show (ac.all fun a => decide (a.txn ∈ cs)) = false from List.all_eq_false.2 ⟨_, HAM.out, by simpa using hin⟩]
              simp)
            clear hin
            go_upto_region 8 with fail
            rw [HX.out]
            clear c0 c1 c2 c3
            go_wp2
            go_ret
            exact ⟨by rw [HF.out]; rfl, B0.out.trans (B1.out.mono B0.out.size |>.trans ((B4.out.trans (OX.out.below (by have := S4.out; omega) fun i hi e => by omega)).mono (by have := B0.out.size; have := B1.out.size; omega)))⟩
        · obtain rfl : j = m := by omega
          have i1 : ¬ (j : Int) < (j : Int) := by omega
          have y1 := hout.cell z1 HC.out
          have HA1 := Lib.hid (show (ac.all fun a => decide (a.txn ∈ cs)) = true by rw [← H0.out.al, List.take_length] at hall; exact hall)
          have HCN := Lib.hid (show ∀ v, (getM hs v).getD (.int .i64 0) = .int .i64 (cntW ac v) by rw [← H0.out.al, List.take_length] at hcnt; exact hcnt)
          have MV := Lib.hid hmv
          have gw4 : Below w1.heap.size w1 wr := B4.out.trans (hout.below (by have := S4.out; omega) fun i hi e => by omega)
          have GW := Lib.hid gw4
          have HR2 := Lib.hid (show rightB cs ac = ac.all (fitsP (cntW ac)) by rw [HR.out, HA1.out]; rfl)
          have BW := Lib.hid (show Below w.heap.size w wr from B0.out.trans (B1.out.mono B0.out.size |>.trans (gw4.mono (by have := B0.out.size; have := B1.out.size; omega))))
          clear hj hlt hmv hcnt hlen hall hout gw4 z0 z1
          go_upto_region 15 with fail
          go_loopw [58] (fun i wx => ∃ k : Nat, i = .int .i64 (k : Nat) ∧ k ≤ j ∧ (ac.take k).all (fitsP (cntW ac)) = true ∧ Below wr.heap.size wr wx) (fun i _ => j - (intOf i).toNat)
          case atStart => exact ⟨0, rfl, Nat.zero_le _, by simp, Below.refl _ _⟩
          case round =>
            rename World => wx
            obtain ⟨k, rfl, hk, hfk, hbx⟩ := hrel
            by_cases hlt : k < j
            · obtain ⟨a, ha⟩ : ∃ a, ac[k]? = some a := ⟨_, List.getElem?_eq_getElem (by rw [H0.out.al]; exact hlt)⟩
              obtain ⟨g, o, rfl, c0, c1, c2, c3⟩ := (H1.out.gw (GW.out.trans (hbx.mono GW.out.size))).act ha
              have y2 := keep_below y1 hbx
              have HAW := Lib.hid (H1.out.aw a (List.mem_of_getElem? ha))
              have HTK := Lib.hid (show (ac.take (k + 1)).all (fitsP (cntW ac)) = ((ac.take k).all (fitsP (cntW ac)) && fitsP (cntW ac) a) by rw [List.take_add_one, ha]; simp [List.all_append])
              have HAM := Lib.hid (List.mem_of_getElem? ha)
              obtain ⟨X, hX⟩ : ∃ X, wx.alloc (.cells #[.int .i64 a.txn, .bool a.wr, .string a.item, .int .i64 a.ver] 44) = X := ⟨_, rfl⟩
              have bX : Below wx.heap.size wx X := by rw [← hX]; exact alloc_below11 _ _
              have qX : X.heap[wx.heap.size]? = some (.cells #[.int .i64 a.txn, .bool a.wr, .string a.item, .int .i64 a.ver] 44 (0, 0)) := by rw [← hX]; exact heap_alloc_new _ _
              have d0 : X.cell? ⟨wx.heap.size, 0, none⟩ = some (.int .i64 a.txn) := cell_of_row _ _ 0 _ _ _ qX
              have d1 : X.cell? ⟨wx.heap.size, 1, none⟩ = some (.bool a.wr) := cell_of_row _ _ 1 _ _ _ qX
              have d2 : X.cell? ⟨wx.heap.size, 2, none⟩ = some (.string a.item) := cell_of_row _ _ 2 _ _ _ qX
              have d3 : X.cell? ⟨wx.heap.size, 3, none⟩ = some (.int .i64 a.ver) := cell_of_row _ _ 3 _ _ _ qX
              have bWX : Below wr.heap.size wr X := below_next hbx bX
              have CF := Lib.hid (wsFits (MV.out.block (bWX.block _ MV.out.lt)) HCN.out HAW.out)
              have i2 : (k : Int) < (j : Int) := by omega
              have l1 : (k : Int) ≤ 4096 := by have := HM.out; omega
              have HLT := Lib.hid hlt
              have BX := Lib.hid bWX
              have HX := Lib.hid hX
              have HFK := Lib.hid hfk
              clear ha bX qX hk hlt hX hfk hbx bWX
              cases hf : fitsP (cntW ac) a
              · rw [hf] at CF
                have HF := Lib.hid (show rightB cs ac = false by rw [HR2.out]; exact List.all_eq_false.2 ⟨_, HAM.out, by rw [hf]; simp⟩)
                clear hf
                go_upto_region 17 with fail
                rw [HX.out]
                clear c0 c1 c2 c3
                unfold acV at CF
                go_wp2_with (go_at_call 64; go_loud (refine CF.out.mono ?_; rintro e w3 ⟨rfl, b3⟩; have B3 := Lib.hid b3; clear b3))
                go_ret
                exact ⟨by rw [HF.out]; rfl, below_next (below_next BW.out BX.out) B3.out⟩
              · rw [hf] at CF HTK
                rw [HFK.out] at HTK
                clear hf
                go_upto_region 17 with fail
                rw [HX.out]
                clear c0 c1 c2 c3
                unfold acV at CF
                go_wp2_with (go_at_call 64; go_loud (refine CF.out.mono ?_; rintro e w3 ⟨rfl, b3⟩; have B3 := Lib.hid b3; clear b3))
                go_roundw
                case rel => exact ⟨k + 1, by go_num, HLT.out, HTK.out, below_next BX.out B3.out⟩
                case measure => have := HLT.out; simp [intOf]; omega
            · obtain rfl : k = j := by omega
              have i2 : ¬ (k : Int) < (k : Int) := by omega
              have HF := Lib.hid (show rightB cs ac = true by rw [HR2.out]; rw [← H0.out.al, List.take_length] at hfk; exact hfk)
              have BX := Lib.hid hbx
              clear hk hlt hfk hbx
              go_wp2
              go_ret
              exact ⟨by rw [HF.out]; rfl, below_next BW.out BX.out⟩
    · rw [hlow] at HR
      go_enter Tryz.func41, Tryz.ntmps41
      go_upto_region 1 with fail
      rw [HW0.out]
      go_wp2_with (first
        | (go_at_call 42; go_loud (refine CP.out.mono ?_; rintro e w1 ⟨r1, rfl, m1, g1, b1⟩; have M1 := Lib.hid m1; have B1 := Lib.hid b1; have H1 := Lib.hid (H0.out.gw b1); have y0 := keep_below x0 b1; have y1 := keep_below x1 b1; have CL := Lib.hid (wsHasLow (c := c) (H0.out.gw b1).cb H0.out.cl HN.out); have hlt1 := m1.lt; have G1 := Lib.hid (show r1 < w1.heap.size from hlt1); clear hlt1 m1 b1; rw [hlow] at CL))
        | (go_at_call 62; go_loud (refine CL.out.mono ?_; rintro e w2 ⟨rfl, hw⟩; replace hw := hw.symm; subst hw)))
      go_ret
      exact ⟨by rw [HR.out]; rfl, B0.out.trans (B1.out.mono B0.out.size)⟩
  · rw [show decide cs.Nodup = false by simpa using hnd] at CP HR
    obtain ⟨lo, hlow⟩ : ∃ q, (cs.any fun x => decide (x < 1)) = q := ⟨_, rfl⟩
    go_enter Tryz.func41, Tryz.ntmps41
    go_upto_region 1 with fail
    rw [HW0.out]
    go_wp2_with (first
      | (go_at_call 42; go_loud (refine CP.out.mono ?_; rintro e w1 ⟨r1, rfl, m1, g1, b1⟩; have M1 := Lib.hid m1; have B1 := Lib.hid b1; have H1 := Lib.hid (H0.out.gw b1); have y0 := keep_below x0 b1; have y1 := keep_below x1 b1; have CL := Lib.hid (wsHasLow (c := c) (H0.out.gw b1).cb H0.out.cl HN.out); have hlt1 := m1.lt; have G1 := Lib.hid (show r1 < w1.heap.size from hlt1); clear hlt1 m1 b1; rw [hlow] at CL))
      | (go_at_call 62; go_loud (refine CL.out.mono ?_; rintro e w2 ⟨rfl, hw⟩; replace hw := hw.symm; subst hw)))
    go_ret
    exact ⟨by rw [HR.out]; rfl, B0.out.trans (B1.out.mono B0.out.size)⟩
end Go.Proofs.YtnpeankmmojebaaGreatDoor
