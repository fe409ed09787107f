import Derived.Test.YtnpeankmmojebaaGreatDoorJAN
import Derived.Test.YtnpeankmmojebaaGreatDoorSeE
import Derived.Test.YtnpeankmmojebaaGreatDoorJAK
import Derived.Test.YtnpeankmmojebaaGreatDoorJAM
import Derived.Lib.SliceRun
/- Layer 11: the program's nextOnes. -/
set_option linter.unusedVariables false
namespace Go.Proofs.YtnpeankmmojebaaGreatDoor
set_option maxRecDepth 100000
set_option maxRecDepth 100000
open Go.RowKit Go.Maps Go.ChangeMaps Go.MapKept

theorem sb_act (X : World) (a : Ac) : SB (X.alloc (.cells #[.int .i64 a.txn, .bool a.wr, .string a.item, .int .i64 a.ver] 44)) (some ⟨X.heap.size, 0, none⟩) (seA.s * 1) (cellsE acC [a]) := by
  refine ⟨rfl, cellsE_one acC_one _, fun _ => ⟨X.heap.size, 0, rfl, fun j u hj => ?_⟩⟩
  rw [cell_of_row _ _ _ _ _ _ (heap_alloc_new X _)]
  simpa [cellsE, acC] using hj
def wrF (l : List Ac) : List Ac := l.filter (·.wr)
theorem wrF_next {l : List Ac} {j : Nat} {a : Ac} (h : l[j]? = some a) : wrF (l.take (j + 1)) = if a.wr = true then wrF (l.take j) ++ [a] else wrF (l.take j) := by
  unfold wrF
  rw [List.take_add_one, h, Option.toList_some, List.filter_append]
  cases hw : a.wr <;> simp [hw]
theorem wrF_len (l : List Ac) (j : Nat) : (wrF (l.take j)).length ≤ j := Nat.le_trans (List.length_filter_le _ _) (by rw [List.length_take]; omega)
theorem so_act {base n c g : Nat} {w : World} {ys : List Ac} (h : SO seA base w (.slice (some ⟨g, 0, none⟩) n c) n (cellsE acC ys)) {j : Nat} {x : Ac} (hx : ys[j]? = some x) : w.cell? ⟨g, j * 4, none⟩ = some (.int .i64 x.txn) ∧ w.cell? ⟨g, j * 4 + 1, none⟩ = some (.bool x.wr) ∧ w.cell? ⟨g, j * 4 + 2, none⟩ = some (.string x.item) ∧ w.cell? ⟨g, j * 4 + 3, none⟩ = some (.int .i64 x.ver) := by
  have hl : (cellsE acC ys).length = 4 * n := h.len
  have hn : ys.length = n := by rw [cellsE_len acC_len] at hl; omega
  obtain ⟨A, c', e1, hsb, -⟩ := h.form
  cases e1
  subst hn
  obtain ⟨b, o, e, hc⟩ := SB.elE acC_len (by omega) (show SB w (some ⟨g, 0, none⟩) (4 * ys.length) (cellsE acC ys) from hsb) hx
  cases e
  simp only [Nat.zero_add] at hc
  exact ⟨hc 0 _ rfl, hc 1 _ rfl, hc 2 _ rfl, hc 3 _ rfl⟩
section
variable {w : World} {A B : Option Addr} {n c m d : Nat} {cs : List Int} {ac : List Ac}
set_option maxHeartbeats 64000000 in
theorem wsNext (h : Hist w A n c B m d cs ac) (hR : Right cs ac) :
    Calls Tryz.prog 51 #[histV A n c B m d] w fun e w' => ∃ r hs, e = .returned (.map (some r)) ∧ MapM KV w' r hs ∧ (∀ it v, getM hs (it, v) = (succP (0 :: wrs cs ac it) v).map (.int .i64)) ∧ w.heap.size ≤ r ∧ Below w.heap.size w w' := by
  obtain ⟨W0, hB⟩ := h.box
  have HB := Lib.hid hB
  have HW := Lib.hid hB.eq
  have x0 := hB.x0
  have x1 := hB.x1
  have hn : n ≤ 4096 := by rw [← h.cl]; exact hR.lc
  have hm : m ≤ 4096 := by rw [← h.al]; exact hR.la
  have HN := Lib.hid hn
  have HM := Lib.hid hm
  have HR := Lib.hid hR
  have CP := Lib.hid (wsPlaces (c := c) hB.h.cb hB.h.cl hB.h.cw (by omega))
  have rmv : ∀ W : World, (Instr.makeMap mapVI none).run Tryz.prog W = .ok (.map (some W.heap.size)) (W.alloc (.map #[] 0)) := fun W => rfl
  have rms : ∀ W : World, (Instr.makeMap mapSI none).run Tryz.prog W = .ok (.map (some W.heap.size)) (W.alloc (.map #[] 0)) := fun W => rfl
  have RMV := Lib.hid rmv
  have RMS := Lib.hid rms
  clear h hB hn hm hR rmv rms
  unfold histV
  go_enter Tryz.func51, Tryz.ntmps51
  go_upto_region 1 with fail
  rw [HW.out]
  go_upto_region 2 with (go_at_call 42; go_loud (refine CP.out.mono ?_; rintro e w1 ⟨r1, rfl, m1, g1, b1⟩; obtain ⟨X1, hX1⟩ : ∃ X, w1.alloc (.cells #[.map (some r1)] 69) = X := ⟨_, rfl⟩; have bX : Below w1.heap.size w1 X1 := hX1 ▸ alloc_below11 w1 _; have sX : X1.heap.size = w1.heap.size + 1 := (by have := congrArg (fun W => W.heap.size) hX1; simpa using this.symm); have qX : X1.heap[w1.heap.size]? = some (.cells #[.map (some r1)] 69 (0, 0)) := hX1 ▸ heap_alloc_new w1 _; have M1 := Lib.hid (m1.block (bX.block _ m1.lt)); have G1 := Lib.hid (show r1 < w1.heap.size from m1.lt); have HX1 := Lib.hid hX1; have SX := Lib.hid sX; have cX : X1.cell? ⟨w1.heap.size, 0, none⟩ = some (.map (some r1)) := cell_of_row _ _ 0 _ _ _ qX; have BX := Lib.hid (below_next b1 bX); have y0 := keep_below (keep_below x0 b1) bX; have y1 := keep_below (keep_below x1 b1) bX; clear m1 bX sX qX hX1 b1))
  rw [HX1.out]
  clear x0 x1
  go_upto_region 4 with fail
  go_loopw [5, 21] (fun lv i wr => ∃ j : Nat, i = .int .i64 (j : Nat) ∧ j ≤ m ∧ SO seA X1.heap.size wr lv (wrF (ac.take j)).length (cellsE acC (wrF (ac.take j))) ∧ Below X1.heap.size X1 wr) (fun _ i _ => m - (intOf i).toNat)
  case atStart => exact ⟨0, rfl, Nat.zero_le _, SO.nil _ _ _, Below.refl _ _⟩
  case round =>
    rename World => wr
    obtain ⟨j, rfl, hj, hso, hbl⟩ := hrel
    have z0 := keep_below y0 hbl
    have z1 := keep_below y1 hbl
    have cz := keep_below cX hbl
    by_cases hlt : j < m
    · obtain ⟨a, hx⟩ : ∃ a, ac[j]? = some a := ⟨_, List.getElem?_eq_getElem (by rw [HB.out.h.al]; exact hlt)⟩
      obtain ⟨g, o, rfl, c0, c1, c2, c3⟩ := (HB.out.h.gw (below_next BX.out hbl)).act hx
      obtain ⟨X, hX⟩ := a.box wr
      have HX := Lib.hid hX.eq
      have d0 := hX.d0
      have d1 := hX.d1
      have d2 := hX.d2
      have d3 := hX.d3
      have i1 : (j : Int) < (m : Int) := by omega
      have l1 : (j : Int) ≤ 4096 := by have := HM.out; omega
      have HBX := Lib.hid (hbl.trans (hX.below.mono hbl.size))
      have HT := Lib.hid (wrF_next hx)
      have HLN := Lib.hid (wrF_len ac j)
      have SO' := Lib.hid (hso.below hX.below)
      have HLT := Lib.hid hlt
      obtain ⟨lA, lc, rfl, -⟩ := hso.form
      obtain ⟨G, hG⟩ : ∃ G, wrF (ac.take j) = G := ⟨_, rfl⟩
      rw [hG] at HT HLN SO' ⊢
      have hXs : wr.heap.size ≤ X.heap.size := hX.below.size
      have HXS := Lib.hid (Nat.le_trans hbl.size hXs)
      have sa := sb_act X a
      have SA := Lib.hid sa
      obtain ⟨at_, aw, ai, av⟩ := a
      dsimp only at d0 d1 d2 d3 HX c0 c1 c2 c3 SA
      clear hx hX hj hlt hbl hso hG hXs sa z0 cz
      cases aw
      · have HS := Lib.hid (show wrF (ac.take (j + 1)) = G by rw [HT.out]; rfl)
        go_upto_region 6 with fail
        rw [HX.out]
        clear c0 c1 c2 c3 z1
        go_wp2
        go_roundw
        case rel => exact ⟨j + 1, by go_num, HLT.out, by rw [HS.out]; exact SO'.out, HBX.out⟩
        case measure => have := HLT.out; simp [intOf]; omega
      · have HS := Lib.hid (show wrF (ac.take (j + 1)) = G ++ [⟨at_, true, ai, av⟩] by rw [HT.out]; rfl)
        go_upto_region 6 with fail
        rw [HX.out]
        clear c0 c1 c2 c3 z1
        go_wp2_with (at_builtin; go_loud (refine so_append seA_ok (by rfl) (.tmp 27) (.tmp 29) (by rfl) _ (by rfl) (SO'.out.alloc _) (some ⟨X.heap.size, 0, none⟩) 1 1 (cellsE acC [⟨at_, true, ai, av⟩]) (by rfl) SA.out (by have := HLN.out; have := HLT.out; have := HM.out; omega) (by have := HXS.out; simp; omega) ?_; intro v9 w9 o9 b9; have O9 := Lib.hid o9; have B9 := Lib.hid b9; clear o9 b9))
        go_roundw
        case rel => exact ⟨j + 1, by go_num, HLT.out, by rw [HS.out, cellsE_app, List.length_append]; exact O9.out, (HBX.out.alloc HBX.out.size _).trans B9.out⟩
        case measure => have := HLT.out; simp [intOf]; omega
    · obtain rfl : j = m := by omega
      have i1 : ¬ (j : Int) < (j : Int) := by omega
      have hall : wrF (ac.take j) = wrF ac := by rw [← HB.out.h.al, List.take_length]
      rw [hall] at hso
      have hwl : (wrF ac).length ≤ 4096 := by have := wrF_len ac j; rw [hall] at this; have := HM.out; omega
      have hwf : ∀ a ∈ wrF ac, wfI a.txn := fun a ha => (HB.out.h.aw a (List.mem_filter.1 ha).1).1
      have hMw : MapM KN wr r1 (plM cs cs.length) := by
        have := M1.out.block (hbl.block _ (by have := SX.out; have := G1.out; omega))
        rw [← HB.out.h.cl] at this
        exact this
      have CSO := Lib.hid (wsortAc hso (by omega) hwf HR.out.nd hMw cz (by have := SX.out; have := G1.out; omega) (by have := SX.out; omega))
      have HBL := Lib.hid hbl
      have HWL := Lib.hid hwl
      obtain ⟨lA, lc, rfl, -⟩ := hso.form
      clear hj hlt hbl hso hwl hwf hMw hall z0 z1
      go_upto_region 10 with (go_at_call 69; go_loud (refine CSO.out.mono ?_; rintro e w3 ⟨rfl, ⟨ms, hp, hs, so3⟩, b3⟩; have S3 := Lib.hid so3; have B3 := Lib.hid b3; have HP := Lib.hid hp; have HS := Lib.hid hs; clear so3 b3 hp hs))
      have hwo : ∀ it, wOf ms it = wrs cs ac it := fun it => HR.out.wOf_is HP.out (HS.out.imp_of_mem fun {a b} ha hb k => by
        have h1 := HR.out.txn a (List.mem_filter.1 (HP.out.mem_iff.1 ha)).1
        have h2 := HR.out.txn b (List.mem_filter.1 (HP.out.mem_iff.1 hb)).1
        unfold posP at k
        rw [if_pos h1, if_pos h2] at k
        omega) it
      have HWO := Lib.hid hwo
      have hql : ms.length = (wrF ac).length := HP.out.length_eq
      obtain ⟨q, hq⟩ : ∃ q, (wrF ac).length = q := ⟨_, rfl⟩
      rw [hq] at S3 hql HWL ⊢
      have HQL := Lib.hid hql
      obtain ⟨W4, hW4⟩ : ∃ W, w3.alloc (.map #[] 0) = W := ⟨_, rfl⟩
      obtain ⟨W5, hW5⟩ : ∃ W, W4.alloc (.map #[] 0) = W := ⟨_, rfl⟩
      have rm1 : (Instr.makeMap mapVI none).run Tryz.prog w3 = .ok (.map (some w3.heap.size)) W4 := hW4 ▸ rfl
      have rm2 : (Instr.makeMap mapSI none).run Tryz.prog W4 = .ok (.map (some W4.heap.size)) W5 := hW5 ▸ rfl
      have b4 : Below w3.heap.size w3 W4 := hW4 ▸ alloc_below11 w3 _
      have b5 : Below W4.heap.size W4 W5 := hW5 ▸ alloc_below11 W4 _
      have s4 : W4.heap.size = w3.heap.size + 1 := by have := congrArg (fun W => W.heap.size) hW4; simpa using this.symm
      have s5 : W5.heap.size = W4.heap.size + 1 := by have := congrArg (fun W => W.heap.size) hW5; simpa using this.symm
      have M4 := Lib.hid ((show MapM KV W4 w3.heap.size [] from hW4 ▸ MapM.new KV w3).block (b5.block _ (by omega)))
      have M5 := Lib.hid (show MapM KT11 W5 W4.heap.size [] from hW5 ▸ MapM.new KT11 W4)
      have B5 := Lib.hid (below_next b4 b5)
      have S4 := Lib.hid s4
      have S5 := Lib.hid s5
      clear hwo hql hq hW4 hW5 b4 b5 s4 s5
      go_upto_region 13 with fail
      go_loopw [39] (fun i wx => ∃ (k : Nat) (nx : List (Vr × Value)) (nw : List (ByteArray × Value)), i = .int .i64 (k : Nat) ∧ k ≤ q ∧ MapM KV wx w3.heap.size nx ∧ MapM KT11 wx W4.heap.size nw ∧ NxIs (ms.take k) nx nw ∧ nx.length ≤ k ∧ nw.length ≤ k ∧ Out (fun i => i = w3.heap.size ∨ i = W4.heap.size) W5 wx) (fun i _ => q - (intOf i).toNat)
      case atStart => exact ⟨0, [], [], rfl, Nat.zero_le _, M4.out, M5.out, NxIs.nil, Nat.le_refl _, Nat.le_refl _, Out.refl _ _⟩
      case round =>
        rename World => wx
        obtain ⟨k, nx, nw, rfl, hk, hmx, hmw, hnx, hlx, hlw, hout⟩ := hrel
        have bx : Below w3.heap.size w3 wx := B5.out.trans (hout.below (by have := S4.out; have := S5.out; omega) fun i hi e => by have := S4.out; omega)
        by_cases hlt : k < q
        · obtain ⟨a, hx⟩ : ∃ a, ms[k]? = some a := ⟨_, List.getElem?_eq_getElem (by rw [HQL.out]; exact hlt)⟩
          have hso := S3.out.below bx
          obtain ⟨A', c', e1, hsb, -⟩ := hso.form
          obtain ⟨rfl, rfl⟩ : lA = A' ∧ lc = c' := by simp at e1; exact e1
          have hsb' : SB wx lA (4 * ms.length) (cellsE acC ms) := by rw [HQL.out]; exact hsb
          obtain ⟨g, o, rfl, hc⟩ := hsb'.elE acC_len (by omega) hx
          have c0 := hc 0 _ rfl
          have c1 := hc 1 _ rfl
          have c2 := hc 2 _ rfl
          have c3 := hc 3 _ rfl
          rw [Nat.add_zero] at c0
          obtain ⟨X, hX⟩ := a.box wx
          have HX := Lib.hid hX.eq
          have d0 := hX.d0
          have d1 := hX.d1
          have d2 := hX.d2
          have d3 := hX.d3
          have ham : a ∈ ac := (List.mem_filter.1 (HP.out.mem_iff.1 (List.mem_of_getElem? hx))).1
          have HAW := Lib.hid (HB.out.h.aw a ham)
          have hdn : (0 :: wOf (ms.take k) a.item).Nodup := by
            have h1 := HR.out.wrs_ok a.item
            rw [← HWO.out a.item] at h1
            exact h1.sublist (List.Sublist.cons_cons 0 (((List.take_sublist k ms).filter _).map _))
          have HNX := Lib.hid (hnx.step hx hdn)
          obtain ⟨last, hlast⟩ : ∃ z, (wOf (ms.take k) a.item).getLastD 0 = z := ⟨_, rfl⟩
          have hwl : wfI last := by
            rw [← hlast]
            rcases List.mem_cons.1 (lastD_mem 0 (wOf (ms.take k) a.item)) with e | e
            · rw [e]; exact wfI_of (by omega)
            · obtain ⟨b, hb, e2⟩ := List.mem_map.1 e
              have hb1 := (List.mem_filter.1 hb).1
              rw [← e2]
              exact (HB.out.h.aw b (List.mem_filter.1 (HP.out.mem_iff.1 (List.mem_of_mem_take hb1))).1).1
          have lk : (Instr.lookup mapSI (.map (some W4.heap.size)) (.string a.item) false).run Tryz.prog X = .ok (.int .i64 last) X := by
            have := (hmw.block (hX.below.block _ hmw.lt)).look mapSI_und (zeroI X) (x := a.item) HAW.out.2.2
            rw [hnx.nw, hlast] at this
            exact this
          rw [hlast] at HNX
          have i1 : (k : Int) < (q : Int) := by omega
          have l1 : (k : Int) ≤ 4096 := by have := HWL.out; omega
          have HWLT := Lib.hid hwl
          have MX := Lib.hid (hmx.block (hX.below.block _ hmx.lt))
          have MW := Lib.hid (hmw.block (hX.below.block _ hmw.lt))
          have OX := Lib.hid (hout.then (Out.of_below hX.below _))
          have HLT := Lib.hid hlt
          have HLX := Lib.hid hlx
          have HLW := Lib.hid hlw
          have XS := Lib.hid (show W4.heap.size < wx.heap.size from hmw.lt)
          have NE := Lib.hid (show w3.heap.size ≠ W4.heap.size by have := S4.out; omega)
          have NE2 := Lib.hid (show wx.heap.size ≠ w3.heap.size ∧ wx.heap.size ≠ W4.heap.size by have := S4.out; have := XS.out; omega)
          obtain ⟨at_, aw, ai, av⟩ := a
          dsimp only at *
          clear hx hX hk hmx hmw hnx hlx hlw hout bx hlt hso e1 hsb hsb' hc ham hdn hlast hwl
          go_upto_region 15 with fail
          rw [HX.out]
          clear c0 c1 c2 c3
          go_upto_region 16 with (at_mapUpdate; go_loud (refine wp_put11 KV (by rfl) (.tmp 43) (.tmp 50) (.tmp 52) (by rfl) (by rfl) MX.out mapVI_und (ai, last) ⟨HAW.out.2.2, HWLT.out⟩ (by rfl) (by have := HLX.out; have := HLT.out; have := HWL.out; omega) ?_; intro w5 m5 o5; have M6 := Lib.hid m5; have O6 := Lib.hid o5; have f0 := o5.cell d0 NE2.out.1; have f2 := o5.cell d2 NE2.out.1; clear m5 o5; go_frame))
          have MW6 := Lib.hid (MW.out.block (O6.out.block _ MW.out.lt NE.out.symm))
          clear d0 d1 d2 d3 lk
          go_wp2_with (at_mapUpdate; go_loud (refine wp_put11 KT11 (by rfl) (.tmp 53) (.tmp 55) (.tmp 57) (by rfl) (by rfl) MW6.out mapSI_und ai HAW.out.2.2 (by rfl) (by have := HLW.out; have := HLT.out; have := HWL.out; omega) ?_; intro w7 m7 o7; have M7 := Lib.hid m7; have O7 := Lib.hid o7; clear m7 o7; go_frame))
          go_roundw
          case rel =>
            refine ⟨k + 1, _, _, by go_num, HLT.out, M6.out.block (O7.out.block _ M6.out.lt NE.out), M7.out, HNX.out, ?_, ?_, OX.out.then ((O6.out.mono fun _ _ e => .inl e).then (O7.out.mono fun _ _ e => .inr e))⟩
            · rw [putM_len MX.out.once]
              have := HLX.out
              split <;> omega
            · rw [putM_len MW6.out.once]
              have := HLW.out
              split <;> omega
          case measure => have := HLT.out; simp [intOf]; omega
        · obtain rfl : k = q := by omega
          have i1 : ¬ (k : Int) < (k : Int) := by omega
          have hfin : ∀ it v, getM nx (it, v) = (succP (0 :: wrs cs ac it) v).map (.int .i64) := fun it v => by
            rw [hnx.nx, ← HQL.out, List.take_length, HWO.out]
          have HF := Lib.hid hfin
          have HMX := Lib.hid hmx
          have BX2 := Lib.hid bx
          clear hk hmx hmw hnx hlx hlw hout bx hlt hfin rm1 rm2
          go_wp2
          go_ret
          have s1 := HB.out.below.size
          have s2 := BX.out.size
          have s3 := HBL.out.size
          have s4 := B3.out.size
          refine ⟨_, rfl, nx, HMX.out, HF.out, by omega, below_next (below_next HB.out.below BX.out) (HBL.out.trans (B3.out.trans (BX2.out.mono (by omega))))⟩
end
end Go.Proofs.YtnpeankmmojebaaGreatDoor

/- Layer 11: slices.Compact of dependencies that the call itself made. -/
namespace Go.Proofs.YtnpeankmmojebaaGreatDoor
set_option maxRecDepth 100000
set_option maxRecDepth 100000
open Go.RowKit

/-- Of the first i of a list, those that differ from the one ahead. -/
def cpD (ys : List Dp) : Nat → List Dp
  | 0 => []
  | i + 1 => match ys[i]? with
    | some y => if 0 < i ∧ ys[i - 1]? = some y then cpD ys i else cpD ys i ++ [y]
    | none => cpD ys i
theorem cpD_next {ys : List Dp} {i : Nat} {y : Dp} (h : ys[i]? = some y) : cpD ys (i + 1) = if 0 < i ∧ ys[i - 1]? = some y then cpD ys i else cpD ys i ++ [y] := by
  show (match ys[i]? with | some y => _ | none => _) = _
  rw [h]
theorem cpD_len (ys : List Dp) : ∀ i, (cpD ys i).length ≤ i
  | 0 => Nat.le_refl _
  | i + 1 => by
    have ih := cpD_len ys i
    cases h : ys[i]? with
    | none => show (match ys[i]? with | some y => _ | none => _ : List Dp).length ≤ _; rw [h]; exact Nat.le_succ_of_le ih
    | some y => rw [cpD_next h]; split <;> simp <;> omega
/-- Of a list that rises: it rises strictly, and has the same members. -/
theorem cpD_is {ys : List Dp} (h : ys.Pairwise fun a b => lessD b a = false) : ∀ i, i ≤ ys.length → (cpD ys i).Pairwise (lessD · · = true) ∧ ∀ x, x ∈ cpD ys i ↔ x ∈ ys.take i
  | 0, _ => by simp [cpD]
  | i + 1, hi => by
    obtain ⟨i1, i2⟩ := cpD_is h i (by omega)
    obtain ⟨y, hy⟩ : ∃ y, ys[i]? = some y := ⟨_, List.getElem?_eq_getElem (by omega)⟩
    rw [cpD_next hy, List.take_add_one, hy, Option.toList_some]
    split
    · rename_i e
      refine ⟨i1, fun x => ?_⟩
      rw [i2, List.mem_append, List.mem_singleton]
      constructor
      · exact .inl
      · rintro (k | rfl)
        · exact k
        · exact List.mem_of_getElem? (i := i - 1) (by rw [List.getElem?_take, if_pos (by omega)]; exact e.2)
    · rename_i e
      refine ⟨List.pairwise_append.2 ⟨i1, List.pairwise_singleton .., fun a ha b hb => ?_⟩, fun x => by rw [List.mem_append, i2, List.mem_append]⟩
      rw [List.mem_singleton.1 hb]
      obtain ⟨j, hj⟩ := List.mem_iff_getElem?.1 ((i2 a).1 ha)
      rw [List.getElem?_take] at hj
      split at hj
      · rename_i hji
        have hpi := List.pairwise_iff_getElem.1 h
        have hjl : j < ys.length := by omega
        have h1 := hpi j i hjl (by omega) hji
        rw [List.getElem?_eq_getElem hjl] at hj
        rw [List.getElem?_eq_getElem (by omega)] at hy
        rw [Option.some.inj hj, Option.some.inj hy] at h1
        cases h2 : lessD a y with
        | true => rfl
        | false =>
          exfalso
          have hay := lessD_tri _ _ h2 h1
          subst hay
          apply e
          refine ⟨by omega, ?_⟩
          rcases Nat.lt_or_ge j (i - 1) with h3 | h3
          · have h4 := hpi j (i - 1) hjl (by omega) h3
            have h5 := hpi (i - 1) i (by omega) (by omega) (by omega)
            rw [Option.some.inj hj] at h4
            rw [Option.some.inj hy] at h5
            rw [List.getElem?_eq_getElem (by omega), lessD_tri _ _ h4 h5]
          · have : j = i - 1 := by omega
            rw [← this, List.getElem?_eq_getElem hjl, Option.some.inj hj]
      · cases hj
theorem cpD_all {ys : List Dp} : ∀ i, i ≤ ys.length → (∀ j y, 0 < j → j < i → ys[j]? = some y → ys[j - 1]? ≠ some y) → cpD ys i = ys.take i
  | 0, _, _ => by simp [cpD]
  | i + 1, hi, h => by
    obtain ⟨y, hy⟩ : ∃ y, ys[i]? = some y := ⟨_, List.getElem?_eq_getElem (by omega)⟩
    rw [cpD_next hy, List.take_add_one, hy, cpD_all i (by omega) fun j y h1 h2 => h j y h1 (by omega)]
    rw [if_neg (fun k => h i y k.1 (by omega) hy k.2)]
    rfl
section
variable {E : SEl} {base n c g : Nat} {w : World} {vs us : List Value}
/-- Cells laid into such a row. -/
theorem so_storeE (h : SO E base w (.slice (some ⟨g, 0, none⟩) n c) n vs) (o : Nat) (h1 : ∀ u ∈ us, u.oneCell' = true) (hl : o + us.length ≤ vs.length) : SO E base (w.setCells g o us) (.slice (some ⟨g, 0, none⟩) n c) n (putL vs o us) := by
  refine ⟨own_setCells us o h.own, by rw [putL_len]; exact h.len, fun u hu => ?_⟩
  obtain ⟨j, hj⟩ := List.mem_iff_getElem?.1 hu
  rw [putL_get us vs o j hl] at hj
  split at hj
  · exact h1 u (List.mem_of_getElem? hj)
  · exact h.one u (List.mem_of_getElem? hj)
theorem so_shrinkE (h : SO E base w (.slice (some ⟨g, 0, none⟩) n c) n vs) {n2 : Nat} (hn : n2 ≤ n) : SO E base w (.slice (some ⟨g, 0, none⟩) n2 c) n2 (vs.take (E.s * n2)) := by
  have hl := h.len
  have hle : E.s * n2 ≤ E.s * n := Nat.mul_le_mul_left _ hn
  rcases h.own.2 with ⟨hv, -⟩ | ⟨g', cap, cur, hv, hb, hh, hc, hm, hsz, ht⟩
  · cases hv
  · obtain ⟨rfl, rfl⟩ : g = g' ∧ c = cap := by simpa using hv
    refine ⟨⟨by rw [List.length_take, hl, Nat.mul_comm n2]; omega, .inr ⟨g, c, cur, rfl, hb, hh, Nat.le_trans hn hc, hm, hsz, ?_⟩⟩, by rw [List.length_take, hl]; omega, fun u hu => h.one u (List.mem_of_mem_take hu)⟩
    rw [← ht, List.take_take, Nat.mul_comm E.s]
    congr 1
    have : n2 * E.s ≤ n * E.s := Nat.mul_le_mul_right _ hn
    omega
end
theorem cellsE_set {ys : List Dp} {i : Nat} {y : Dp} (hi : i < ys.length) : putL (cellsE dpC ys) (i * 3) (dpC y) = cellsE dpC (ys.set i y) := by
  have hl : (cellsE dpC ys).length = 3 * ys.length := cellsE_len dpC_len ys
  apply List.ext_getElem?
  intro t
  rw [putL_get _ _ _ _ (by rw [hl, dpC_len]; omega), dpC_len]
  have hl2 : (cellsE dpC (ys.set i y)).length = 3 * ys.length := by rw [cellsE_len dpC_len]; simp
  by_cases ht : t < 3 * ys.length
  · have hq : t / 3 < ys.length := by omega
    have e : 3 * (t / 3) + t % 3 = t := Nat.div_add_mod t 3
    have hm : t % 3 < 3 := Nat.mod_lt _ (by omega)
    by_cases hti : t / 3 = i
    · rw [if_pos (by omega)]
      have h1 : (ys.set i y)[i]? = some y := List.getElem?_set_self (by omega)
      obtain ⟨u, hu⟩ : ∃ u, (dpC y)[t % 3]? = some u := ⟨_, List.getElem?_eq_getElem (by rw [dpC_len]; exact hm)⟩
      have h2 := cellsE_at dpC_len _ _ _ h1 _ _ hu
      rw [← hti, e] at h2
      rw [show t - i * 3 = t % 3 by omega, hu]
      rw [hti] at h2
      exact h2.symm
    · rw [if_neg (by omega)]
      obtain ⟨x, hx⟩ : ∃ x, ys[t / 3]? = some x := ⟨_, List.getElem?_eq_getElem hq⟩
      have h1 : (ys.set i y)[t / 3]? = some x := by rw [List.getElem?_set_ne (Ne.symm hti)]; exact hx
      obtain ⟨u, hu⟩ : ∃ u, (dpC x)[t % 3]? = some u := ⟨_, List.getElem?_eq_getElem (by rw [dpC_len]; exact hm)⟩
      have h2 := cellsE_at dpC_len _ _ _ h1 _ _ hu
      have h3 := cellsE_at dpC_len _ _ _ hx _ _ hu
      rw [e] at h2 h3
      rw [h2, h3]
  · rw [if_neg (by omega), List.getElem?_eq_none (by omega), List.getElem?_eq_none (by omega)]
theorem run_storeE (w : World) (b o : Nat) (cs : List Value) (ht : w.there b o cs.length) (h1 : ∀ v ∈ cs, v.oneCell' = true) : (storeCells ⟨b, o, none⟩ cs 0).run Tryz.prog w = .ok () (w.setCells b o cs) := by
  have := run_storeCells_cells (P := Tryz.prog) b o cs 0 w (fun j hj => by simpa using (ht j hj).1) (fun j hj => by simpa using (ht j hj).2) h1
  simpa using this
theorem zeroDp (w : World) : (zeroValue 51).run Tryz.prog w = .ok (.agg #[.int .i64 0, .int .i64 0, .int .i64 0]) w := by kernel_rfl
/-- clear(s[k:]) of such a list: what stands ahead of k stays. -/
theorem run_clearD {base n c g k : Nat} {w : World} {ys : List Dp} (h : SO seD base w (.slice (some ⟨g, 0, none⟩) n c) n (cellsE dpC ys)) (hy : ys.length = n) (hk : k < n) (c2 : Nat) :
    ∃ w', (∀ ty : TypeId, (Builtin.clear_ #[45] ty #[.slice (some ⟨g, k * 3, none⟩) (n - k) c2]).run Tryz.prog w = .ok (.tuple #[]) w') ∧ SO seD base w' (.slice (some ⟨g, 0, none⟩) k c) k (cellsE dpC (ys.take k)) ∧ Out (fun i => i = g) w w' := by
  have hz : ∀ m, (Builtin.zeroCells (Value.agg #[.int .i64 0, .int .i64 0, .int .i64 0]).cells m).toList = List.replicate (m * 3) (.int .i64 0) := fun m => by
    apply List.ext_getElem
    · simp [Builtin.zeroCells, Value.cells]
    · intro i h1 h2
      have hi : i < m * 3 := by simpa using h2
      simp only [Builtin.zeroCells, Value.cells, List.getElem_replicate]
      have : i % 3 = 0 ∨ i % 3 = 1 ∨ i % 3 = 2 := by omega
      rcases this with e | e | e <;> simp [e]
  have hl : (cellsE dpC ys).length = 3 * n := by rw [cellsE_len dpC_len, hy]
  have hst := run_storeE w g (k * 3) (List.replicate ((n - k) * 3) (.int .i64 0)) (own_there h.own _ _ (by rw [hl]; simp; omega)) (by intro v hv; rw [List.eq_of_mem_replicate hv]; rfl)
  obtain ⟨m, hm⟩ : ∃ m, n - k = m + 1 := ⟨n - k - 1, by omega⟩
  refine ⟨w.setCells g (k * 3) (List.replicate ((n - k) * 3) (.int .i64 0)), ?_, ?_, Out.setCells (F := fun i => i = g) (Out.refl _ w) (.inl rfl) _ _⟩
  · intro ty
    rw [hm] at hst ⊢
    simp [Builtin.clear_, run_underlying Tryz.underlying45, hz, hst]
  · have h2 := so_storeE (us := List.replicate ((n - k) * 3) (.int .i64 0)) h (k * 3) (by intro v hv; rw [List.eq_of_mem_replicate hv]; rfl) (by rw [hl]; simp; omega)
    have h3 := so_shrinkE h2 (Nat.le_of_lt hk)
    have e : (putL (cellsE dpC ys) (k * 3) (List.replicate ((n - k) * 3) (.int .i64 0))).take (seD.s * k) = cellsE dpC (ys.take k) := by
      rw [cellsE_take dpC_len]
      apply List.ext_getElem?
      intro t
      show (List.take (3 * k) _)[t]? = _
      rw [List.getElem?_take, List.getElem?_take]
      split
      · rw [putL_get _ _ _ _ (by rw [hl]; simp; omega), if_neg (by omega)]
      · rfl
    rw [e] at h3
    exact h3
end Go.Proofs.YtnpeankmmojebaaGreatDoor
