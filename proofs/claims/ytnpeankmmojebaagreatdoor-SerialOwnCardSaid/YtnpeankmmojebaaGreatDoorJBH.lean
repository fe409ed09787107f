import Derived.Test.YtnpeankmmojebaaGreatDoorJBG
import Derived.Deep.CutBlock
import Derived.Test.YtnpeankmmojebaaGreatDoorSeV
/- Layer 11: the reference's Sorted. -/
set_option linter.unusedVariables false
namespace Go.Proofs.YtnpeankmmojebaaGreatDoor
set_option maxRecDepth 100000
set_option maxRecDepth 100000
open Go.RowKit

theorem plN_stop11 {l : List Int} {x : Int} {j : Nat} (h1 : ∀ i a, i < j → l[i]? = some a → a < x) (h2 : j ≤ l.length) (h3 : ∀ a, l[j]? = some a → ¬ a < x) : plN l x = j := by
  rcases Nat.lt_trichotomy (plN l x) j with h | h | h
  · obtain ⟨a, ha⟩ : ∃ a, l[plN l x]? = some a := ⟨_, List.getElem?_eq_getElem (by omega)⟩
    exact absurd (h1 _ a h ha) (plN_at l x a ha)
  · exact h
  · have hj : j < l.length := by have := plN_le l x; omega
    obtain ⟨a, ha⟩ : ∃ a, l[j]? = some a := ⟨_, List.getElem?_eq_getElem hj⟩
    exact absurd (plN_below l x j a h ha) (h3 a ha)
theorem numC_take (l : List Int) (k : Nat) : numC (l.take k) = (numC l).take k := by simp [numC, List.map_take]
theorem numC_drop (l : List Int) (k : Nat) : numC (l.drop k) = (numC l).drop k := by simp [numC, List.map_drop]
theorem rise_ins {cs : List Int} (hd : cs.Nodup) {j : Nat} {x : Int} (hx : cs[j]? = some x) : riseP (cs.take (j + 1)) = (riseP (cs.take j)).take (plN (riseP (cs.take j)) x) ++ [x] ++ (riseP (cs.take j)).drop (plN (riseP (cs.take j)) x) := by
  rw [rise_take hx]
  unfold insN
  rw [if_neg]
  intro h
  have hm := ((rise_is (cs.take j)).2 x).1 (List.mem_of_getElem? h)
  obtain ⟨i, hi⟩ := List.mem_iff_getElem?.1 hm
  obtain ⟨hl, e⟩ := List.getElem?_eq_some_iff.1 hi
  have hl2 : i < j := by rw [List.length_take] at hl; omega
  rw [List.getElem?_take_of_lt hl2] at hi
  have h1 := idx_of hd hi
  have h2 := idx_of hd hx
  omega
set_option maxHeartbeats 32000000 in
theorem wrSorted {w : World} {A : Option Addr} {n c : Nat} {cs : List Int} (hs : SB w A n (numC cs)) (hl : cs.length = n) (hn : n ≤ 4096) (hd : cs.Nodup) :
    Calls Tryz.prog 49 #[.slice A n c] w fun e w' => ∃ v, e = .returned v ∧ SO seI w.heap.size w' v (riseP cs).length (numC (riseP cs)) ∧ Below w.heap.size w w' := by
  have HS := Lib.hid hs
  have HL := Lib.hid hl
  have HN := Lib.hid hn
  have HD := Lib.hid hd
  clear hs hl hn hd
  go_enter Tryz.func49, Tryz.ntmps49
  go_upto_region 3 with fail
  go_loopg [3, 4] n (fun gk lv i wr => ∃ j : Nat, i = .int .i64 (j : Nat) ∧ gk + j = n ∧ SO seI w.heap.size wr lv (riseP (cs.take j)).length (numC (riseP (cs.take j))) ∧ Below w.heap.size w wr)
  case atStart => exact ⟨0, rfl, rfl, SO.nil _ _ _, Below.refl _ _⟩
  case round =>
    rename World => wr
    obtain ⟨j, rfl, hgk, hso, hb⟩ := hrel
    by_cases hlt : j < n
    · obtain ⟨x, hx⟩ : ∃ x, cs[j]? = some x := ⟨_, List.getElem?_eq_getElem (by rw [HL.out]; exact hlt)⟩
      obtain ⟨ga, oa, rfl, ca⟩ := (HS.out.gw hb).num hx
      have HRI := Lib.hid (rise_ins HD.out hx)
      have HLR := Lib.hid (show (riseP (cs.take j)).length ≤ 4096 by have := rise_len cs j; have := HL.out; have := HN.out; omega)
      obtain ⟨R, hR⟩ : ∃ R, riseP (cs.take j) = R := ⟨_, rfl⟩
      rw [hR] at HRI HLR hso
      obtain ⟨m, hm⟩ : ∃ m, R.length = m := ⟨_, rfl⟩
      rw [hm] at HLR hso
      obtain ⟨Ro, rc, rfl, hrs, hmc, hcm, hro⟩ := hso.form
      have hrs : SB wr Ro m (numC R) := by have := hrs; have e : seI.s * m = m := Nat.one_mul m; rwa [e] at this
      obtain ⟨p, hp⟩ : ∃ p, plN R x = p := ⟨_, rfl⟩
      have hpm : p ≤ m := by rw [← hp, ← hm]; exact plN_le R x
      rw [hp] at HRI
      have HP := Lib.hid hp
      have HPM := Lib.hid hpm
      have HM := Lib.hid hm
      have HRS := Lib.hid hrs
      have HMC := Lib.hid (And.intro hmc hcm)
      have HB := Lib.hid hb
      have HLT := Lib.hid hlt
      have HGK := Lib.hid hgk
      have i1 : (j : Int) < (n : Int) := by omega
      have l1 : (j : Int) ≤ 4096 := by have := HN.out; omega
      have l2 : (0 : Int) ≤ (j : Int) := by omega
      clear hx hlt hso hb hgk hm hmc hcm hrs hp hpm hR hro
      go_upto_block 2 with fail
      go_cut [5] (fun v5 wx => v5 = .int .i64 (p : Nat) ∧ Below wr.heap.size wr wx)
      case first =>
        go_upto_region 6 with fail
        go_loopw [5] (fun k wy => ∃ q : Nat, k = .int .i64 (q : Nat) ∧ q ≤ m ∧ (∀ i a, i < q → R[i]? = some a → a < x) ∧ Below wr.heap.size wr wy) (fun k _ => m - (intOf k).toNat)
        case atStart => exact ⟨0, rfl, Nat.zero_le _, fun i a h => absurd h (Nat.not_lt_zero _), Below.refl _ _⟩
        case round =>
          rename World => wy
          obtain ⟨q, rfl, hq, hlo, hby⟩ := hrel
          have ca' := keep_below ca hby
          by_cases hqm : q < m
          · obtain ⟨y, hy⟩ : ∃ y, R[q]? = some y := ⟨_, List.getElem?_eq_getElem (by rw [HM.out]; exact hqm)⟩
            obtain ⟨gr, orr, rfl, cr⟩ := (HRS.out.gw hby).num hy
            have d1 : decide ((q : Int) < (m : Int)) = true := by simp; omega
            have d1' : decide (q < m) = true := by simpa using hqm
            have q1 : (q : Int) < (m : Int) := by omega
            have q2 : (q : Int) ≤ 4096 := by have := HLR.out; omega
            have HY := Lib.hid hy
            have HLO := Lib.hid hlo
            have HBY := Lib.hid hby
            have HQM := Lib.hid hqm
            clear hy hlo hby hqm hq ca
            by_cases hyx : y < x
            · have d2 : decide (y < x) = true := by simpa using hyx
              have HYX := Lib.hid hyx
              clear hyx
              go_upto_region 6 with fail
              go_quiet (fail)
              go_wp2
              go_roundw
              case rel => exact ⟨q + 1, by go_num, HQM.out, fun i a hi h => by
                rcases Nat.lt_or_ge i q with k | k
                · exact HLO.out i a k h
                · have e : i = q := by omega
                  rw [e, HY.out] at h
                  rw [← Option.some.inj h]; exact HYX.out, below_next HBY.out (below_drewN11 _ _)⟩
              case measure => have := HQM.out; simp [intOf]; omega
            · have d2 : decide (y < x) = false := by simpa using hyx
              have HPQ := Lib.hid (show p = q from HP.out.symm.trans (plN_stop11 HLO.out (by rw [HM.out]; exact Nat.le_of_lt HQM.out) fun a ha => by rw [HY.out] at ha; rw [← Option.some.inj ha]; exact hyx))
              clear hyx
              go_upto_region 6 with fail
              go_quiet (fail)
              go_wp2
              go_meet
              exact ⟨by rw [HPQ.out], below_next HBY.out (below_drewN11 _ _)⟩
          · obtain rfl : q = m := by omega
            have d1 : decide ((q : Int) < (q : Int)) = false := by simp
            have HPQ := Lib.hid (show p = q from HP.out.symm.trans (plN_stop11 hlo (by rw [HM.out]; exact Nat.le_refl _) fun a ha => by rw [List.getElem?_eq_none (by rw [HM.out]; exact Nat.le_refl _)] at ha; cases ha))
            have HBY := Lib.hid hby
            clear hlo hby hqm hq ca
            go_upto_region 6 with fail
            go_quiet (fail)
            go_wp2
            go_meet
            exact ⟨by rw [HPQ.out], below_next HBY.out (below_drewN11 _ _)⟩
      case rest =>
        rename World => wx
        obtain ⟨rfl, hbx⟩ := hcut
        have ca' := keep_below ca hbx
        have l3 : (p : Int) ≤ 4096 := by have := HPM.out; have := HLR.out; omega
        obtain ⟨A2, hA2⟩ : ∃ (A2 : Option Addr), (if rc = p then Ro else Ro.map (·.add (p * seI.s))) = A2 := ⟨_, rfl⟩
        have RF : ∀ W, (Instr.slice 22 (.slice Ro m rc) (some (.int .i64 (p : Int))) none none).run Tryz.prog W = .ok (.slice A2 (m - p) (rc - p)) W := fun W => by rw [← hA2]; exact run_fromE seI_ok W Ro m rc p HPM.out HMC.out.1
        have RU : ∀ W, (Instr.slice 22 (.slice Ro m rc) none (some (.int .i64 (p : Int))) none).run Tryz.prog W = .ok (.slice Ro p rc) W := fun W => run_uptoE seI_ok W Ro m rc p (Nat.le_trans HPM.out HMC.out.1)
        have P0 := Lib.hid (show SB wr Ro (seI.s * m) (numC R) by rw [show seI.s * m = m from Nat.one_mul m]; exact HRS.out)
        have P1 := Lib.hid (show ∀ W, Below wr.heap.size wr W → SB W Ro (seI.s * p) (numC (R.take p)) from fun W hW => by
          rw [numC_take, show seI.s * p = p from Nat.one_mul p]
          exact (HRS.out.gw hW).take HPM.out)
        have P2 := Lib.hid (show ∀ W, Below wr.heap.size wr W → SB W A2 (seI.s * (m - p)) (numC (R.drop p)) from fun W hW => by
          have h1 := (P0.out.gw hW).cut (c := rc) HPM.out HMC.out.1
          rw [show seI.s * p = p from Nat.one_mul p, ← numC_drop, hA2] at h1
          exact h1)
        have BX := Lib.hid hbx
        have SBX := fun (W : World) => (show SB (W.alloc (.cells #[.int .i64 x] 3)) (some ⟨W.heap.size, 0, none⟩) (seI.s * 1) [.int .i64 x] from ⟨rfl, fun u hu => by rw [List.mem_singleton.1 hu]; rfl, fun _ => ⟨W.heap.size, 0, rfl, fun i u hi => by
          rw [cell_of_row _ _ _ _ _ _ (heap_alloc_new W _)]
          simpa using hi⟩⟩)
        have SBX := Lib.hid SBX
        clear hbx hA2 ca
        go_upto_region 10 with (at_builtin; go_loud (refine so_append seI_ok (by rfl) (.tmp 30) (.tmp 33) (by rfl) _ (by rfl) (SO.nil seI wx.heap.size _) Ro p rc (numC (R.take p)) (by rfl) (P1.out _ BX.out) (by have := HPM.out; have := HLR.out; omega) (Nat.le_refl _) ?_; intro v3 w3 o3 b3; have O3 := Lib.hid o3; have B3 := Lib.hid b3; have ca3 := keep_below ca' b3; clear o3 b3))
        clear ca'
        go_upto_region 11 with (at_builtin; go_loud (refine so_append seI_ok (by rfl) (.tmp 35) (.tmp 40) (by rfl) _ (by rfl) (O3.out.alloc _) (some ⟨w3.heap.size, 0, none⟩) 1 1 [.int .i64 x] (by rfl) (SBX.out w3) (by have := HPM.out; have := HLR.out; omega) (by have := B3.out.size; simp; omega) ?_; intro v5 w5 o5 b5; have O5 := Lib.hid o5; have B5 := Lib.hid ((B3.out.alloc B3.out.size _).trans b5); clear o5 b5))
        clear ca3
        go_wp2_with (at_builtin; go_loud (refine so_append seI_ok (by rfl) (.tmp 42) (.tmp 45) (by rfl) _ (by rfl) O5.out A2 (m - p) (rc - p) (numC (R.drop p)) (by rfl) (P2.out _ (BX.out.trans (B5.out.mono BX.out.size))) (by have := HPM.out; have := HLR.out; omega) B5.out.size ?_; intro v7 w7 o7 b7; have O7 := Lib.hid o7; have B7 := Lib.hid (B5.out.trans b7); clear o7 b7))
        go_roundg (gk - 1)
        case measure => have := HGK.out; have := HLT.out; omega
        case rel =>
          have hsz : w.heap.size ≤ wx.heap.size := Nat.le_trans HB.out.size BX.out.size
          have h7 := O7.out.lower hsz
          have hm := HM.out
          have hp := HPM.out
          have e : numC (R.take p) ++ [.int .i64 x] ++ numC (R.drop p) = numC (R.take p ++ [x] ++ R.drop p) := by simp [numC]
          have e2 : (R.take p ++ [x] ++ R.drop p).length = 0 + p + 1 + (m - p) := by simp; omega
          refine ⟨j + 1, by go_num, by have := HGK.out; have := HLT.out; omega, ?_, HB.out.trans ((BX.out.mono HB.out.size).trans (B7.out.mono hsz))⟩
          rw [HRI.out, e2, ← e]
          simpa using h7
    · obtain rfl : j = n := by omega
      have i1 : ¬ (j : Int) < (j : Int) := by omega
      rw [show cs.take j = cs by rw [← HL.out, List.take_length]] at hso
      have HSO := Lib.hid hso
      have HB := Lib.hid hb
      clear hlt hso hb hgk
      go_wp2
      go_ret
      exact ⟨_, rfl, HSO.out, HB.out⟩
end Go.Proofs.YtnpeankmmojebaaGreatDoor

/- Layer 11: the reference's Graph. -/
namespace Go.Proofs.YtnpeankmmojebaaGreatDoor
set_option maxRecDepth 100000
set_option maxRecDepth 100000
open Go.RowKit

section
variable {w : World} {A B : Option Addr} {n c m d : Nat} {cs : List Int} {ac : List Ac}
set_option maxHeartbeats 32000000 in
theorem wrGraph (h : Hist w A n c B m d cs ac) (hn : n ≤ 4096) (hm : m ≤ 4096) :
    Calls Tryz.prog 20 #[histV A n c B m d] w fun e w' => ∃ v, e = .returned v ∧ DL w' v (graphP cs ac) ∧ Below w.heap.size w w' := by
  obtain ⟨W0, hB⟩ := h.box
  have HB := Lib.hid hB
  have HW := Lib.hid hB.eq
  have x0 := hB.x0
  have x1 := hB.x1
  have HM := Lib.hid hm
  have CN := Lib.hid (fun W (hW : Below W0.heap.size W0 W) it v => wrNext (hB.h.gw hW) hn hm it v)
  have HGR := Lib.hid (show graphP cs ac = ac.foldl (stepG cs ac) [] from rfl)
  have HLN := Lib.hid (fun j => graph_len cs ac (ac.take j) [])
  clear h hB hn hm
  unfold histV
  unfold histV at CN
  go_enter Tryz.func20, Tryz.ntmps20
  go_upto_region 1 with fail
  rw [HW.out]
  go_upto_region 3 with fail
  go_loopw [3, 4] (fun lv i wr => ∃ j : Nat, i = .int .i64 (j : Nat) ∧ j ≤ m ∧ DL wr lv ((ac.take j).foldl (stepG cs ac) []) ∧ Below W0.heap.size W0 wr) (fun _ i _ => m - (intOf i).toNat)
  case atStart => exact ⟨0, rfl, Nat.zero_le _, DL.nil _, Below.refl _ _⟩
  case round =>
    rename World => wr
    obtain ⟨j, rfl, hj, hdl, hbl⟩ := hrel
    have hdl0 := hdl
    obtain ⟨lA, lc, rfl, -⟩ := hdl0
    have y0 := keep_below x0 hbl
    have y1 := keep_below x1 hbl
    by_cases hlt : j < m
    · obtain ⟨a, hx⟩ : ∃ a, ac[j]? = some a := ⟨_, List.getElem?_eq_getElem (by rw [HB.out.h.al]; exact hlt)⟩
      obtain ⟨g, o, rfl, c0, c1, c2, c3⟩ := (HB.out.h.gw hbl).act hx
      obtain ⟨X, hX⟩ := a.box wr
      have HX := Lib.hid hX.eq
      have d0 := hX.d0
      have d1 := hX.d1
      have d2 := hX.d2
      have d3 := hX.d3
      have z0 := keep_below y0 hX.below
      have z1 := keep_below y1 hX.below
      have i1 : (j : Int) < (m : Int) := by omega
      have l1 : (j : Int) ≤ 4096 := by have := HM.out; omega
      have l2 : (0 : Int) ≤ (j : Int) := by omega
      have HT := Lib.hid (graph_next (cs := cs) (a := a) hx)
      have hln := HLN.out j
      have hgl : ((ac.take j).foldl (stepG cs ac) []).length ≤ 8192 := by
        have := List.length_take_le j ac
        simp only [List.length_nil] at hln
        omega
      have BX := Lib.hid (below_next hbl hX.below)
      have DX := Lib.hid (hdl.gw hX.below)
      have HLT := Lib.hid hlt
      have HGL := Lib.hid hgl
      obtain ⟨G, hG⟩ : ∃ G, (ac.take j).foldl (stepG cs ac) [] = G := ⟨_, rfl⟩
      rw [hG] at DX HT HGL ⊢
      have hST : stepG cs ac G a = (depsA cs ac a).foldl putD G := rfl
      obtain ⟨at_, aw, ai, av⟩ := a
      dsimp only at d0 d1 d2 d3 HX c0 c1 c2 c3
      clear hx hX hj hlt hbl hdl hln hgl hG y0
      cases aw
      · by_cases hv : av = at_
        · subst hv
          have HS := Lib.hid (show stepG cs ac G ⟨av, false, ai, av⟩ = G by rw [hST]; simp [depsA])
          clear hST
          go_upto_region 6 with fail
          rw [HX.out]
          clear c0 c1 c2 c3 y1
          go_wp2
          go_roundw
          case rel => exact ⟨j + 1, by go_num, HLT.out, by rw [HT.out, HS.out]; exact DX.out, BX.out⟩
          case measure => have := HLT.out; simp [intOf]; omega
        · have hv' : (av == at_) = false := by simpa using hv
          have HS := Lib.hid (show stepG cs ac G ⟨at_, false, ai, av⟩ = putD (putD G ⟨av, at_, 1⟩) ⟨at_, nextP cs ac ai av, 3⟩ by rw [hST]; simp [depsA, hv])
          clear hST hv
          have CP := Lib.hid (wrPut DX.out (by have := HGL.out; omega) ⟨av, at_, 1⟩)
          obtain ⟨G1, hG1⟩ : ∃ G1, putD G ⟨av, at_, 1⟩ = G1 := ⟨_, rfl⟩
          have HG1 := Lib.hid (show G1.length ≤ 8193 by rw [← hG1]; have := putD_len G ⟨av, at_, 1⟩; have := HGL.out; omega)
          rw [hG1] at CP HS
          obtain ⟨nx, hnx⟩ : ∃ nx, nextP cs ac ai av = nx := ⟨_, rfl⟩
          rw [hnx] at HS
          have HNX := Lib.hid hnx
          unfold dpV at CP
          dsimp only at CP
          clear hG1 hnx
          go_upto_region 6 with fail
          rw [HX.out]
          clear c0 c1 c2 c3 y1
          go_upto_region 10 with (go_at_call 37; go_loud (refine CP.out.mono ?_; rintro e w2 ⟨v2, rfl, p2, b2⟩; have P2 := Lib.hid p2; have B2 := Lib.hid b2; have S0 : w2.cell? ⟨w.heap.size, 0, none⟩ = some (.slice A n c) ∧ w2.cell? ⟨w.heap.size, 1, none⟩ = some (.slice (some ⟨g, o, none⟩) m d) ∧ w2.cell? ⟨wr.heap.size, 0, none⟩ = some (.int .i64 at_) ∧ w2.cell? ⟨wr.heap.size, 2, none⟩ = some (.string ai) ∧ w2.cell? ⟨wr.heap.size, 3, none⟩ = some (.int .i64 av) := ⟨keep_below z0 b2, keep_below z1 b2, keep_below d0 b2, keep_below d2 b2, keep_below d3 b2⟩; clear p2 b2))
          clear z0 z1 d0 d1 d2 d3
          have S2 : ∀ W : World, Below w2.heap.size w2.drew W → W.cell? ⟨w.heap.size, 0, none⟩ = some (.slice A n c) ∧ W.cell? ⟨w.heap.size, 1, none⟩ = some (.slice (some ⟨g, o, none⟩) m d) ∧ W.cell? ⟨wr.heap.size, 0, none⟩ = some (.int .i64 at_) ∧ W.cell? ⟨wr.heap.size, 2, none⟩ = some (.string ai) ∧ W.cell? ⟨wr.heap.size, 3, none⟩ = some (.int .i64 av) := fun W hW => ⟨keep_below (w := w2.drew) S0.1 hW, keep_below (w := w2.drew) S0.2.1 hW, keep_below (w := w2.drew) S0.2.2.1 hW, keep_below (w := w2.drew) S0.2.2.2.1 hW, keep_below (w := w2.drew) S0.2.2.2.2 hW⟩
          have CX := Lib.hid (CN.out w2.drew ((BX.out.trans (B2.out.mono BX.out.size)).drew) ai av)
          rw [HNX.out] at CX
          go_region_held3 (fun W => W.cell? ⟨w.heap.size, 0, none⟩ = some (.slice A n c) ∧ W.cell? ⟨w.heap.size, 1, none⟩ = some (.slice (some ⟨g, o, none⟩) m d) ∧ W.cell? ⟨wr.heap.size, 0, none⟩ = some (.int .i64 at_) ∧ W.cell? ⟨wr.heap.size, 2, none⟩ = some (.string ai) ∧ W.cell? ⟨wr.heap.size, 3, none⟩ = some (.int .i64 av)) (first | exact S0 | exact S2 _ B3.out | exact S2 _ B4.out)
            (first
              | (go_at_call 38; go_loud (refine CX.out.mono ?_; rintro e w3 ⟨rfl, b3⟩; have B3 := Lib.hid (show Below w2.heap.size w2.drew w3 from b3); have CQ := Lib.hid (wrPut ((show DL w2.drew v2 G1 from P2.out.gw ((Below.refl _ _).drew)).gw b3) (by have := HG1.out; omega) ⟨at_, nx, 3⟩); unfold dpV at CQ; dsimp only at CQ; clear b3))
              | (go_at_call 37; go_loud (refine CQ.out.mono ?_; rintro e w4 ⟨v4, rfl, p4, b4⟩; have P4 := Lib.hid p4; have B4 := Lib.hid (show Below w2.heap.size w2.drew w4 from B3.out.trans (b4.mono B3.out.size)); clear p4 b4)))
          all_goals
            go_wp2
            go_roundw
            case rel => exact ⟨j + 1, by go_num, HLT.out, by rw [HT.out, HS.out]; exact P4.out, (BX.out.trans (B2.out.mono BX.out.size)).trans (((Below.refl _ _).drew).trans (B4.out.mono (by have := BX.out.size; have := B2.out.size; omega)))⟩
            case measure => have := HLT.out; simp [intOf]; omega
      · have HS := Lib.hid (show stepG cs ac G ⟨at_, true, ai, av⟩ = putD G ⟨at_, nextP cs ac ai at_, 2⟩ by rw [hST]; simp [depsA])
        clear hST
        obtain ⟨nx, hnx⟩ : ∃ nx, nextP cs ac ai at_ = nx := ⟨_, rfl⟩
        rw [hnx] at HS
        have S0 : X.cell? ⟨w.heap.size, 0, none⟩ = some (.slice A n c) ∧ X.cell? ⟨w.heap.size, 1, none⟩ = some (.slice (some ⟨g, o, none⟩) m d) ∧ X.cell? ⟨wr.heap.size, 0, none⟩ = some (.int .i64 at_) ∧ X.cell? ⟨wr.heap.size, 2, none⟩ = some (.string ai) ∧ X.cell? ⟨wr.heap.size, 3, none⟩ = some (.int .i64 av) := ⟨z0, z1, d0, d2, d3⟩
        have S2 : ∀ W : World, Below X.heap.size X.drew W → W.cell? ⟨w.heap.size, 0, none⟩ = some (.slice A n c) ∧ W.cell? ⟨w.heap.size, 1, none⟩ = some (.slice (some ⟨g, o, none⟩) m d) ∧ W.cell? ⟨wr.heap.size, 0, none⟩ = some (.int .i64 at_) ∧ W.cell? ⟨wr.heap.size, 2, none⟩ = some (.string ai) ∧ W.cell? ⟨wr.heap.size, 3, none⟩ = some (.int .i64 av) := fun W hW => ⟨keep_below (w := X.drew) S0.1 hW, keep_below (w := X.drew) S0.2.1 hW, keep_below (w := X.drew) S0.2.2.1 hW, keep_below (w := X.drew) S0.2.2.2.1 hW, keep_below (w := X.drew) S0.2.2.2.2 hW⟩
        have CX := Lib.hid (CN.out X.drew (BX.out.drew) ai at_)
        rw [hnx] at CX
        clear hnx
        go_upto_region 6 with fail
        rw [HX.out]
        clear c0 c1 c2 c3 y1
        go_upto_region 7 with fail
        go_region_held3 (fun W => W.cell? ⟨w.heap.size, 0, none⟩ = some (.slice A n c) ∧ W.cell? ⟨w.heap.size, 1, none⟩ = some (.slice (some ⟨g, o, none⟩) m d) ∧ W.cell? ⟨wr.heap.size, 0, none⟩ = some (.int .i64 at_) ∧ W.cell? ⟨wr.heap.size, 2, none⟩ = some (.string ai) ∧ W.cell? ⟨wr.heap.size, 3, none⟩ = some (.int .i64 av)) (first | exact S0 | exact S2 _ B3.out | exact S2 _ B4.out)
          (first
            | (go_at_call 38; go_loud (refine CX.out.mono ?_; rintro e w3 ⟨rfl, b3⟩; have B3 := Lib.hid (show Below X.heap.size X.drew w3 from b3); have CQ := Lib.hid (wrPut ((show DL X.drew (.slice lA G.length lc) G from DX.out.gw ((Below.refl _ _).drew)).gw b3) (by have := HGL.out; omega) ⟨at_, nx, 2⟩); unfold dpV at CQ; dsimp only at CQ; clear b3))
            | (go_at_call 37; go_loud (refine CQ.out.mono ?_; rintro e w4 ⟨v4, rfl, p4, b4⟩; have P4 := Lib.hid p4; have B4 := Lib.hid (show Below X.heap.size X.drew w4 from B3.out.trans (b4.mono B3.out.size)); clear p4 b4)))
        all_goals
          go_wp2
          go_roundw
          case rel => exact ⟨j + 1, by go_num, HLT.out, by rw [HT.out, HS.out]; exact P4.out, BX.out.trans (((Below.refl _ _).drew).trans (B4.out.mono BX.out.size))⟩
          case measure => have := HLT.out; simp [intOf]; omega
    · obtain rfl : j = m := by omega
      have i1 : ¬ (j : Int) < (j : Int) := by omega
      have HBL := Lib.hid hbl
      have eG : (ac.take j).foldl (stepG cs ac) [] = graphP cs ac := by rw [HGR.out, show ac.take j = ac by rw [← HB.out.h.al]; exact List.take_length]
      have HD := Lib.hid (Eq.mp (congrArg (fun G => DL wr (.slice lA ((ac.take j).foldl (stepG cs ac) []).length lc) G) eG) hdl)
      clear eG
      clear hj hlt hbl hdl
      go_wp2
      go_ret
      exact ⟨_, rfl, HD.out, below_next HB.out.below HBL.out⟩
end
end Go.Proofs.YtnpeankmmojebaaGreatDoor

/- Layer 11: the reference's Pivots. -/
namespace Go.Proofs.YtnpeankmmojebaaGreatDoor
set_option maxRecDepth 100000
set_option maxRecDepth 100000
open Go.RowKit

def toW (g : List Dp) (n : Int) : Bool := g.any fun d => decide (d.kd = 3) && decide (d.to = n)
def frW (g : List Dp) (n : Int) : Bool := g.any fun d => decide (d.kd = 3) && decide (d.fr = n)
def pvB (g : List Dp) (n : Int) : Bool := toW g n && frW g n
def pivP (cs : List Int) (g : List Dp) : List Int := (riseP cs).filter (pvB g)
theorem toW_next {g : List Dp} {j : Nat} {d : Dp} (h : g[j]? = some d) (n : Int) : toW (g.take (j + 1)) n = (toW (g.take j) n || (decide (d.kd = 3) && decide (d.to = n))) := by
  unfold toW; rw [List.take_add_one, h]; simp [List.any_append]
theorem frW_next {g : List Dp} {j : Nat} {d : Dp} (h : g[j]? = some d) (n : Int) : frW (g.take (j + 1)) n = (frW (g.take j) n || (decide (d.kd = 3) && decide (d.fr = n))) := by
  unfold frW; rw [List.take_add_one, h]; simp [List.any_append]
theorem filt_next {l : List Int} {p : Int → Bool} {j : Nat} {x : Int} (h : l[j]? = some x) : (l.take (j + 1)).filter p = if p x = true then (l.take j).filter p ++ [x] else (l.take j).filter p := by
  rw [List.take_add_one, h, Option.toList_some, List.filter_append]
  cases hp : p x <;> simp [hp]
section
variable {w : World} {A B : Option Addr} {n c m d : Nat} {cs : List Int} {ac : List Ac}
end
end Go.Proofs.YtnpeankmmojebaaGreatDoor
