import Derived.Test.YtnpeankmmojebaaDoorJBL
/- Layer 11: the program's Pivots. -/
set_option linter.unusedVariables false
namespace Go.Proofs.YtnpeankmmojebaaDoor
set_option maxRecDepth 100000
set_option maxRecDepth 100000
open Go.RowKit Go.Maps Go.ChangeMaps Go.MapKept

theorem putM_le11 {κ : Type} [DecidableEq κ] (hs : List (κ × Value)) (x : κ) (v : Value) : (putM hs x v).length ≤ hs.length + 1 := by
  unfold putM
  rw [List.length_append, List.length_singleton]
  exact Nat.succ_le_succ (by unfold delM; exact List.length_filter_le _ _)
section
variable {w : World} {A B : Option Addr} {n c m d : Nat} {cs : List Int} {ac : List Ac}
set_option maxHeartbeats 64000000 in
theorem wsPivOk (h : Hist w A n c B m d cs ac) (hR : Right cs ac) :
    Calls Tryd.prog 14 #[histV A n c B m d] w fun e w' => ∃ v, e = .returned (.tuple #[v, .int .i64 0]) ∧ SO seI w.heap.size w' v (pivP cs (graphP cs ac)).length (numC (pivP cs (graphP cs ac))) ∧ Below w.heap.size w w' := by
  obtain ⟨W0, hB⟩ := h.box
  have HB := Lib.hid hB
  have HW := Lib.hid hB.eq
  have x0 := hB.x0
  have x1 := hB.x1
  have CC := Lib.hid (wsCheck hB.h)
  rw [errH_ok hR] at CC
  have CD := Lib.hid (fun W (hW : Below W0.heap.size W0 W) => wsDeps (hB.h.gw hW) hR)
  have HGL := Lib.hid (show (graphP cs ac).length ≤ 8192 by have := hR.edges_len; unfold edgesP at this; rwa [List.length_map] at this)
  have HPV := Lib.hid hR.pivots
  have HWF := Lib.hid (fun (e : Dp) (he : e ∈ graphP cs ac) => (⟨h.cw _ (hR.graph_mem he).1, h.cw _ (hR.graph_mem he).2.1⟩ : wfI e.fr ∧ wfI e.to))
  unfold histV at CC CD ⊢
  obtain ⟨PV, hPV⟩ : ∃ l, pivP cs (graphP cs ac) = l := ⟨_, rfl⟩
  rw [hPV] at HPV ⊢
  obtain ⟨GR, hGR⟩ : ∃ g, graphP cs ac = g := ⟨_, rfl⟩
  rw [hGR] at CD HGL HPV HWF
  clear h hB hR hGR hPV
  go_enter Tryd.func14, Tryd.ntmps14
  go_upto_region 1 with fail
  rw [HW.out]
  go_upto_region 5 with (go_at_call 16; go_loud (refine CC.out.mono ?_; rintro e w1 ⟨rfl, b1⟩; have B1 := Lib.hid b1; have C1 := Lib.hid (CD.out w1 b1); have y0 := keep_below x0 b1; have y1 := keep_below x1 b1; clear b1))
  clear x0 x1
  go_upto_region 6 with (go_at_call 26; go_loud (refine C1.out.mono ?_; rintro e w2 ⟨v2, rfl, s2, b2⟩; have hf2 := s2.form; obtain ⟨dA, dc, rfl, hsb, -⟩ := hf2; have S2 := Lib.hid hsb; have B2 := Lib.hid b2; clear s2 b2 hsb))
  clear y0 y1
  obtain ⟨q, hq⟩ : ∃ q, GR.length = q := ⟨_, rfl⟩
  have DS := Lib.hid (show SB w2 dA (3 * GR.length) (cellsE dpC GR) from S2.out)
  have HQ := Lib.hid hq
  rw [hq] at HGL ⊢
  clear S2 hq
  obtain ⟨W3, hW3⟩ : ∃ W, w2.alloc (.map #[] 0) = W := ⟨_, rfl⟩
  have rm : (Instr.makeMap mapII none).run Tryd.prog w2 = .ok (.map (some w2.heap.size)) W3 := hW3 ▸ rfl
  have M3 := Lib.hid (show MapM KN W3 w2.heap.size [] from hW3 ▸ MapM.new KN w2)
  have B3 := Lib.hid (show Below w2.heap.size w2 W3 from hW3 ▸ alloc_below11 w2 _)
  have SZ3 := Lib.hid (show W3.heap.size = w2.heap.size + 1 by have := congrArg (fun W => W.heap.size) hW3; simpa using this.symm)
  clear hW3
  go_upto_region 8 with fail
  go_loopw [22] (fun i wr => ∃ (j : Nat) (hs : List (Int × Value)), i = .int .i64 (j : Nat) ∧ j ≤ q ∧ MapM KN wr w2.heap.size hs ∧ (∀ v, (getM hs v).getD (.int .i64 0) = .int .i64 (cntT (GR.take j) v : Nat)) ∧ hs.length ≤ j ∧ Below w2.heap.size w2 wr) (fun i _ => q - (intOf i).toNat)
  case atStart => exact ⟨0, [], rfl, Nat.zero_le _, M3.out, fun v => rfl, Nat.le_refl _, B3.out⟩
  case round =>
    rename World => wr
    obtain ⟨j, hs, rfl, hj, hmv, hcnt, hlen, hbl⟩ := hrel
    by_cases hlt : j < q
    · obtain ⟨y, hy⟩ : ∃ y, GR[j]? = some y := ⟨_, List.getElem?_eq_getElem (by rw [HQ.out]; exact hlt)⟩
      obtain ⟨g, o, rfl, c0, c1, c2⟩ := DL.at_ (DS.out.gw hbl) hy
      have hwf := HWF.out y (List.mem_of_getElem? hy)
      have HCT := Lib.hid (cntT_next hy)
      obtain ⟨X, hX⟩ : ∃ X, wr.alloc (.cells #[.int .i64 y.fr, .int .i64 y.to, .int .i64 y.kd] 53) = X := ⟨_, rfl⟩
      have bX : Below wr.heap.size wr X := hX ▸ alloc_below11 wr _
      have qX : X.heap[wr.heap.size]? = some (.cells #[.int .i64 y.fr, .int .i64 y.to, .int .i64 y.kd] 53 (0, 0)) := hX ▸ heap_alloc_new wr _
      have d1 : X.cell? ⟨wr.heap.size, 1, none⟩ = some (.int .i64 y.to) := cell_of_row _ _ 1 _ _ _ qX
      have d2 : X.cell? ⟨wr.heap.size, 2, none⟩ = some (.int .i64 y.kd) := cell_of_row _ _ 2 _ _ _ qX
      have mX : MapM KN X w2.heap.size hs := hmv.block (bX.block _ hmv.lt)
      have lk := mX.look mapII_und (zeroI X) (x := y.to) hwf.2
      rw [hcnt] at lk
      have hcl := cntT_le GR j y.to
      obtain ⟨z, hz⟩ : ∃ z, cntT (GR.take j) y.to = z := ⟨_, rfl⟩
      rw [hz] at lk hcl
      have lk : (Instr.lookup mapII (.map (some w2.heap.size)) (.int .i64 y.to) false).run Tryd.prog X = .ok (.int .i64 (z : Nat)) X := lk
      have i1 : (j : Int) < (q : Int) := by omega
      have l1 : (j : Int) ≤ 8192 := by have := HGL.out; omega
      have l2 : (z : Int) ≤ 8192 := by have := HGL.out; omega
      have HX := Lib.hid hX
      have HBX := Lib.hid (hbl.trans (bX.mono hbl.size))
      have MX := Lib.hid mX
      have HCN := Lib.hid hcnt
      have HLE := Lib.hid hlen
      have HLT := Lib.hid hlt
      have HZ := Lib.hid hz
      have HWY := Lib.hid hwf.2
      obtain ⟨yf, yt, yk⟩ := y
      dsimp only at *
      clear hy hwf hX bX qX mX hcnt hlen hlt hz hj hmv hbl hcl
      by_cases hk : yk = 3
      · subst hk
        go_upto_region 10 with fail
        rw [HX.out]
        clear c0 c1 c2
        go_wp2_with (at_mapUpdate; go_loud (refine wp_put11 KN (by rfl) (.tmp 29) (.tmp 31) (.tmp 33) (by rfl) (by rfl) MX.out mapII_und yt HWY.out (by rfl) (by have := HLE.out; have := HLT.out; have := HGL.out; omega) ?_; intro w5 m5 o5; have M5 := Lib.hid m5; have O5 := Lib.hid o5; clear m5 o5; go_frame))
        go_roundw
        case rel =>
          refine ⟨j + 1, putM hs yt (.int .i64 ((z : Int) + 1)), by go_num, HLT.out, M5.out, fun v => ?_, ?_, HBX.out.trans (O5.out.below HBX.out.size fun i hi e => by omega)⟩
          · rw [getM_put, HCT.out]
            by_cases e : v = yt
            · subst e
              rw [if_pos rfl, if_pos ⟨rfl, rfl⟩, HZ.out]; rfl
            · rw [if_neg e, if_neg (fun k => e k.2.symm)]; exact HCN.out v
          · have := putM_le11 hs yt (.int .i64 ((z : Int) + 1)); have := HLE.out; omega
        case measure => have := HLT.out; simp [intOf]; omega
      · have hk' : (yk == 3) = false := by simpa using hk
        have HK := Lib.hid hk
        clear hk
        go_upto_region 10 with fail
        rw [HX.out]
        clear c0 c1 c2
        go_wp2
        go_roundw
        case rel => exact ⟨j + 1, hs, by go_num, HLT.out, MX.out, fun v => by rw [HCT.out, if_neg (fun k => HK.out k.1)]; exact HCN.out v, by have := HLE.out; omega, HBX.out⟩
        case measure => have := HLT.out; simp [intOf]; omega
    · obtain rfl : j = q := by omega
      have i1 : ¬ (j : Int) < (j : Int) := by omega
      rw [show GR.take j = GR by rw [← HQ.out, List.take_length]] at hcnt
      have HCN := Lib.hid hcnt
      have HMV := Lib.hid hmv
      have HBL := Lib.hid hbl
      clear hj hlt hmv hcnt hlen hbl
      go_upto_region 14 with fail
      go_loopw [5, 37] (fun lv i wx => ∃ k : Nat, i = .int .i64 (k : Nat) ∧ k ≤ j ∧ SO seI wr.heap.size wx lv ((GR.take k).foldl (stepP GR) []).length (numC ((GR.take k).foldl (stepP GR) [])) ∧ Below wr.heap.size wr wx) (fun _ i _ => j - (intOf i).toNat)
      case atStart => exact ⟨0, rfl, Nat.zero_le _, SO.nil _ _ _, Below.refl _ _⟩
      case round =>
        rename World => wx
        obtain ⟨k, rfl, hk, hso, hbx⟩ := hrel
        by_cases hkq : k < j
        · obtain ⟨y, hy⟩ : ∃ y, GR[k]? = some y := ⟨_, List.getElem?_eq_getElem (by rw [HQ.out]; exact hkq)⟩
          have bxx : Below w2.heap.size w2 wx := HBL.out.trans (hbx.mono HBL.out.size)
          obtain ⟨g, o, rfl, c0, c1, c2⟩ := DL.at_ (DS.out.gw bxx) hy
          have hwf := HWF.out y (List.mem_of_getElem? hy)
          have HST := Lib.hid (stepP_next (g0 := GR) hy)
          have HLL := Lib.hid (show ((GR.take k).foldl (stepP GR) []).length ≤ 8192 by
            have key : ∀ (ds : List Dp) (l : List Int), (ds.foldl (stepP GR) l).length ≤ l.length + ds.length := fun ds => by
              induction ds with
              | nil => intro l; simp
              | cons d ds ih =>
                intro l
                rw [List.foldl_cons]
                have h1 := ih (stepP GR l d)
                have h2 : (stepP GR l d).length ≤ l.length + 1 := by unfold stepP; split <;> simp
                rw [List.length_cons]; omega
            have := key (GR.take k) []
            rw [List.length_take, List.length_nil] at this
            have := HGL.out; have := HQ.out; omega)
          obtain ⟨L, hL⟩ : ∃ L, (GR.take k).foldl (stepP GR) [] = L := ⟨_, rfl⟩
          rw [hL] at hso HST HLL
          obtain ⟨X, hX⟩ : ∃ X, wx.alloc (.cells #[.int .i64 y.fr, .int .i64 y.to, .int .i64 y.kd] 53) = X := ⟨_, rfl⟩
          have bX : Below wx.heap.size wx X := hX ▸ alloc_below11 wx _
          have qX : X.heap[wx.heap.size]? = some (.cells #[.int .i64 y.fr, .int .i64 y.to, .int .i64 y.kd] 53 (0, 0)) := hX ▸ heap_alloc_new wx _
          have d0 : X.cell? ⟨wx.heap.size, 0, none⟩ = some (.int .i64 y.fr) := cell_of_row _ _ 0 _ _ _ qX
          have d2 : X.cell? ⟨wx.heap.size, 2, none⟩ = some (.int .i64 y.kd) := cell_of_row _ _ 2 _ _ _ qX
          have mX : MapM KN X w2.heap.size hs := (HMV.out.block (hbx.block _ HMV.out.lt)).block (bX.block _ (Nat.lt_of_lt_of_le HMV.out.lt hbx.size))
          have lk : ∀ nq, (Instr.lookup mapII (.map (some w2.heap.size)) (.int .i64 y.fr) false).run Tryd.prog (X.drewN nq) = .ok (.int .i64 (cntT GR y.fr : Nat)) (X.drewN nq) := fun nq => by
            have := (show MapM KN (X.drewN nq) w2.heap.size hs from mX.block rfl).look mapII_und (zeroI (X.drewN nq)) (x := y.fr) hwf.1
            rw [HCN.out] at this
            exact this
          have HPOS := Lib.hid (cntT_pos GR y.fr)
          obtain ⟨z, hz⟩ : ∃ z, cntT GR y.fr = z := ⟨_, rfl⟩
          rw [hz] at HPOS
          have lk2 : ∀ nq, (Instr.lookup mapII (.map (some w2.heap.size)) (.int .i64 y.fr) false).run Tryd.prog (X.drewN nq) = .ok (.int .i64 (z : Nat)) (X.drewN nq) := fun nq => by rw [← hz]; exact lk nq
          clear lk
          have i2 : (k : Int) < (j : Int) := by omega
          have l1 : (k : Int) ≤ 8192 := by have := HGL.out; omega
          have l3 : (L.length : Int) ≤ 8192 := by have := HLL.out; omega
          have HX := Lib.hid hX
          have HBX := Lib.hid (hbx.trans (bX.mono hbx.size))
          have HSX := Lib.hid (hso.below bX)
          have HKQ := Lib.hid hkq
          obtain ⟨lA, lc, rfl, lsb, -⟩ := hso.form
          have lsb : SB wx lA L.length (numC L) := by have e : seI.s * L.length = L.length := Nat.one_mul _; rwa [e] at lsb
          have LSB := Lib.hid (lsb.gw bX)
          obtain ⟨yf, yt, yk⟩ := y
          dsimp only at *
          have SBX := Lib.hid (fun (nq : Nat) => (show SB ((X.drewN nq).alloc (.cells #[.int .i64 yf] 3)) (some ⟨X.heap.size, 0, none⟩) (seI.s * 1) [.int .i64 yf] from ⟨rfl, fun u hu => by rw [List.mem_singleton.1 hu]; rfl, fun _ => ⟨X.heap.size, 0, rfl, fun i u hi => by
            have h1 : ((X.drewN nq).alloc (.cells #[.int .i64 yf] 3)).heap[X.heap.size]? = some (.cells #[.int .i64 yf] 3 (0, 0)) := heap_alloc_new (X.drewN nq) _
            rw [cell_of_row _ _ _ _ _ _ h1]
            simpa using hi⟩⟩))
          clear hy hwf hX bX qX mX hz hkq hso hbx bxx hL lsb hk
          by_cases hk3 : yk = 3
          · subst hk3
            by_cases hz0 : z = 0
            · subst hz0
              have d1 : decide (0 < (0 : Nat)) = false := by simp
              have HT := Lib.hid (show (GR.take (k + 1)).foldl (stepP GR) [] = L by rw [HST.out]; unfold stepP; rw [if_neg (fun q => by have := HPOS.out.2 q.2.1; omega)])
              go_upto_region 16 with fail
              rw [HX.out]
              clear c0 c1 c2
              go_quiet (fail)
              go_wp2
              go_roundw
              case rel => exact ⟨k + 1, by go_num, HKQ.out, by rw [HT.out]; exact HSX.out.below (below_drewN11 _ _), below_next HBX.out (below_drewN11 _ _)⟩
              case measure => have := HKQ.out; simp [intOf]; omega
            · have d1 : decide (0 < z) = true := by simp; omega
              have hzp : 0 < z := by omega
              have HTW := Lib.hid (HPOS.out.1 hzp)
              clear hz0 hzp
              rcases List.eq_nil_or_concat L with hL0 | ⟨M, ℓ, hLM⟩
              · subst hL0
                have HT := Lib.hid (show (GR.take (k + 1)).foldl (stepP GR) [] = ([] : List Int) ++ [yf] by rw [HST.out]; unfold stepP; rw [if_pos (⟨rfl, HTW.out, by simp⟩)])
                go_upto_region 16 with fail
                rw [HX.out]
                clear c0 c1 c2
                go_quiet (fail)
                go_wp2_with (at_builtin; go_loud (refine so_append seI_ok (by rfl) (.tmp 67) (.tmp 70) (by rfl) _ (by rfl) (((HSX.out.below (below_drewN11 _ nq)).alloc (.cells #[.int .i64 yf] 3))) (some ⟨X.heap.size, 0, none⟩) 1 1 [.int .i64 yf] (by rfl) (SBX.out nq) (by have := HLL.out; omega) (by have := HBX.out.size; simp; omega) ?_; intro v5 w5 o5 b5; have O5 := Lib.hid o5; have B5 := Lib.hid b5; clear o5 b5))
                go_roundw
                case rel =>
                  refine ⟨k + 1, by go_num, HKQ.out, ?_, ((below_next HBX.out (below_drewN11 _ nq)).alloc (below_next HBX.out (below_drewN11 _ nq)).size _).trans B5.out⟩
                  rw [HT.out]
                  simpa [numC] using O5.out
                case measure => have := HKQ.out; simp [intOf]; omega
              · rw [List.concat_eq_append] at hLM
                have hlen : L.length = M.length + 1 := by rw [hLM]; simp
                have hgl : L.getLast? = some ℓ := by rw [hLM]; simp
                have hat : L[M.length]? = some ℓ := by rw [hLM]; simp
                obtain ⟨gl, ol, rfl, cl⟩ := LSB.out.num hat
                have d5 : ((M.length : Int) + 1 == 0) = false := by simp; omega
                have HGL2 := Lib.hid hgl
                have HLEN := Lib.hid hlen
                have HSX2 := Lib.hid (show SO seI wr.heap.size X (.slice (some ⟨gl, ol, none⟩) (M.length + 1) lc) L.length (numC L) by rw [← hlen]; exact HSX.out)
                rw [hlen]
                rw [hlen] at l3
                clear hgl hat hLM hlen
                by_cases he : ℓ = yf
                · subst he
                  have HT := Lib.hid (show (GR.take (k + 1)).foldl (stepP GR) [] = L by rw [HST.out]; unfold stepP; rw [if_neg (fun q => q.2.2 HGL2.out)])
                  go_upto_region 16 with fail
                  rw [HX.out]
                  clear c0 c1 c2
                  go_quiet (fail)
                  go_wp2
                  go_roundw
                  case rel => exact ⟨k + 1, by go_num, HKQ.out, by rw [HT.out]; exact HSX2.out.below (below_drewN11 _ _), below_next HBX.out (below_drewN11 _ _)⟩
                  case measure => have := HKQ.out; simp [intOf]; omega
                · have e1 : (ℓ == yf) = false := by simpa using he
                  have HT := Lib.hid (show (GR.take (k + 1)).foldl (stepP GR) [] = L ++ [yf] by rw [HST.out]; unfold stepP; rw [if_pos (⟨rfl, HTW.out, by rw [HGL2.out]; intro e; exact he (Option.some.inj e)⟩)])
                  go_upto_region 16 with fail
                  rw [HX.out]
                  clear c0 c1 c2
                  go_quiet (fail)
                  go_wp2_with (at_builtin; go_loud (refine so_append seI_ok (by rfl) (.tmp 67) (.tmp 70) (by rfl) _ (by rfl) (((HSX2.out.below (below_drewN11 _ nq)).alloc (.cells #[.int .i64 yf] 3))) (some ⟨X.heap.size, 0, none⟩) 1 1 [.int .i64 yf] (by rfl) (SBX.out nq) (by have := HLL.out; omega) (by have := HBX.out.size; simp; omega) ?_; intro v5 w5 o5 b5; have O5 := Lib.hid o5; have B5 := Lib.hid b5; clear o5 b5))
                  go_roundw
                  case rel =>
                    refine ⟨k + 1, by go_num, HKQ.out, ?_, ((below_next HBX.out (below_drewN11 _ nq)).alloc (below_next HBX.out (below_drewN11 _ nq)).size _).trans B5.out⟩
                    rw [HT.out, List.length_append, List.length_singleton, show numC (L ++ [yf]) = numC L ++ [.int .i64 yf] by simp [numC]]
                    exact O5.out
                  case measure => have := HKQ.out; simp [intOf]; omega
          · have e3 : (yk == 3) = false := by simpa using hk3
            have HT := Lib.hid (show (GR.take (k + 1)).foldl (stepP GR) [] = L by rw [HST.out]; unfold stepP; rw [if_neg (fun q => hk3 q.1)])
            go_upto_region 16 with fail
            rw [HX.out]
            clear c0 c1 c2
            go_quiet (fail)
            go_wp2
            go_roundw
            case rel => exact ⟨k + 1, by go_num, HKQ.out, by rw [HT.out]; exact HSX.out.below (below_drewN11 _ _), below_next HBX.out (below_drewN11 _ _)⟩
            case measure => have := HKQ.out; simp [intOf]; omega
        · obtain rfl : k = j := by omega
          have i2 : ¬ (k : Int) < (k : Int) := by omega
          rw [show GR.take k = GR by rw [← HQ.out, List.take_length], HPV.out] at hso
          have HSO := Lib.hid hso
          have HBX := Lib.hid hbx
          clear hso hbx hkq hk
          go_wp2
          go_ret2
          have hb := below_next (below_next (below_next HB.out.below B1.out) B2.out) HBL.out
          exact ⟨_, rfl, HSO.out.lower hb.size, below_next hb HBX.out⟩
end
end Go.Proofs.YtnpeankmmojebaaDoor

/- Layer 11: the reference's at, Ordered and Serial; orders, plainly. -/
namespace Go.Proofs.YtnpeankmmojebaaDoor
set_option maxRecDepth 100000
set_option maxRecDepth 100000
open Go.RowKit

/-- A list is an order of the commits. -/
def OrdP (cs l : List Int) : Prop := l.length = cs.length ∧ l.Nodup ∧ ∀ x ∈ l, x ∈ cs
/-- Each dependency leads from one that stands ahead to one that stands behind. -/
def serB (l : List Int) (g : List Dp) : Bool := g.all fun d => !decide (plcP l d.to < plcP l d.fr)
theorem plcP_nodup {l : List Int} : l.Nodup ↔ ∀ (i : Nat) x, l[i]? = some x → plcP l x = (i : Int) := by
  constructor
  · exact fun h i x hx => plcP_of h hx
  · intro h
    rw [List.nodup_iff_pairwise_ne, List.pairwise_iff_getElem]
    intro i j hi hj hij e
    have h1 := h i l[i] (List.getElem?_eq_getElem hi)
    have h2 := h j l[j] (List.getElem?_eq_getElem hj)
    rw [e] at h1
    omega
theorem sub_back : ∀ (l m : List Int), l.Nodup → (∀ x ∈ l, x ∈ m) → m.length ≤ l.length → ∀ x ∈ m, x ∈ l
  | [], m, _, _, hl => by
    have : m = [] := List.eq_nil_of_length_eq_zero (by simpa using hl)
    rw [this]; simp
  | a :: l, m, hd, hs, hl => fun x hx => by
    obtain ⟨h1, h2⟩ := List.nodup_cons.1 hd
    have ham := hs a (List.mem_cons_self ..)
    by_cases e : x = a
    · rw [e]; exact List.mem_cons_self ..
    · refine List.mem_cons_of_mem _ (sub_back l (m.erase a) h2 (fun y hy => ?_) ?_ x ?_)
      · have hne : y ≠ a := fun k => h1 (k ▸ hy)
        exact (List.mem_erase_of_ne hne).2 (hs y (List.mem_cons_of_mem _ hy))
      · rw [List.length_erase_of_mem ham]
        rw [List.length_cons] at hl; omega
      · exact (List.mem_erase_of_ne e).2 hx
section
variable {w : World} {A B : Option Addr} {n c m d : Nat} {cs : List Int} {ac : List Ac}
set_option maxHeartbeats 8000000 in
theorem wrAt {l : List Int} (hs : SB w A n (numC l)) (hl : l.length = n) (hn : n ≤ 4096) (t : Int) :
    Calls Tryd.prog 27 #[.slice A n c, .int .i64 t] w fun e w' => e = .returned (.int .i64 (plcP l t)) ∧ w' = w := by
  have HS := Lib.hid hs
  have HL := Lib.hid hl
  have HN := Lib.hid hn
  clear hs hl hn
  go_enter Tryd.func27, Tryd.ntmps27
  go_upto_region 2 with fail
  go_loopw [5] (fun i wr => ∃ j : Nat, i = .int .i64 (j : Nat) ∧ j ≤ n ∧ (∀ x ∈ l.take j, x ≠ t) ∧ wr = w) (fun i _ => n - (intOf i).toNat)
  case atStart => exact ⟨0, rfl, Nat.zero_le _, by simp, rfl⟩
  case round =>
    rename World => wr
    obtain ⟨j, rfl, hj, ha, rfl⟩ := hrel
    by_cases hlt : j < n
    · obtain ⟨x, hx⟩ : ∃ x, l[j]? = some x := ⟨_, List.getElem?_eq_getElem (by rw [HL.out]; exact hlt)⟩
      obtain ⟨g, o, rfl, c0⟩ := HS.out.num hx
      have i1 : (j : Int) < (n : Int) := by omega
      have l1 : (j : Int) ≤ 4096 := by have := HN.out; omega
      have l2 : (0 : Int) ≤ (j : Int) := by omega
      have HA := Lib.hid ha
      have HX := Lib.hid hx
      have HLT := Lib.hid hlt
      clear hx ha hj hlt
      by_cases hp : x = t
      · subst hp
        have HT := Lib.hid (show plcP l x = (j : Int) from plcP_first HX.out HA.out)
        go_wp2
        go_ret
        exact ⟨by rw [HT.out]; rfl, rfl⟩
      · have hp' : (x == t) = false := by simpa using hp
        go_wp2
        go_roundw
        case rel => exact ⟨j + 1, by go_num, HLT.out, fun y hy => by
          rw [List.take_add_one, HX.out] at hy
          rcases List.mem_append.1 hy with h1 | h1
          · exact HA.out y h1
          · rw [List.mem_singleton.1 h1]; exact hp, by first | rfl | trivial⟩
        case measure => have := HLT.out; simp [intOf]; omega
    · obtain rfl : j = n := by omega
      have i1 : ¬ (j : Int) < (j : Int) := by omega
      have HT := Lib.hid (show plcP l t = -1 by
        rw [← HL.out, List.take_length] at ha
        unfold plcP
        rw [if_neg (fun hm => ha t hm rfl)])
      clear ha hj hlt
      go_wp2
      go_ret
      exact ⟨by rw [HT.out]; rfl, rfl⟩
end
end Go.Proofs.YtnpeankmmojebaaDoor
