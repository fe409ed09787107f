import Derived.Test.YtbmgeobmmpaghaaGreatDoorKSL
import Derived.Deep.CutBlock
import Derived.Test.YtbmgeobmmpaghaaGreatDoorSeW
/- Layer 11: the reference's Sorted. -/
set_option linter.unusedVariables false
namespace Go.Proofs.YtbmgeobmmpaghaaGreatDoor
set_option maxRecDepth 100000
open Go.RowKit

theorem plN_stop11 {l : List Int} {x : Int} {j : Nat} (h1 : ∀ i a, i < j → l[i]? = some a → a < x) (h2 : j ≤ l.length) (h3 : ∀ a, l[j]? = some a → ¬ a < x) : plN l x = j := by
  rcases Nat.lt_trichotomy (plN l x) j with h | h | h
  · obtain ⟨a, ha⟩ : ∃ a, l[plN l x]? = some a := ⟨_, List.getElem?_eq_getElem (by omega)⟩
    exact absurd (h1 _ a h ha) (plN_at l x a ha)
  · exact h
  · have hj : j < l.length := by have := plN_le l x; omega
    obtain ⟨a, ha⟩ : ∃ a, l[j]? = some a := ⟨_, List.getElem?_eq_getElem hj⟩
    exact absurd (plN_below l x j a h ha) (h3 a ha)
theorem numC_take (l : List Int) (k : Nat) : numC (l.take k) = (numC l).take k := by simp [numC, List.map_take]
theorem numC_drop (l : List Int) (k : Nat) : numC (l.drop k) = (numC l).drop k := by simp [numC, List.map_drop]
theorem rise_ins {cs : List Int} (hd : cs.Nodup) {j : Nat} {x : Int} (hx : cs[j]? = some x) : riseP (cs.take (j + 1)) = (riseP (cs.take j)).take (plN (riseP (cs.take j)) x) ++ [x] ++ (riseP (cs.take j)).drop (plN (riseP (cs.take j)) x) := by
  rw [rise_take hx]
  unfold insN
  rw [if_neg]
  intro h
  have hm := ((rise_is (cs.take j)).2 x).1 (List.mem_of_getElem? h)
  obtain ⟨i, hi⟩ := List.mem_iff_getElem?.1 hm
  obtain ⟨hl, e⟩ := List.getElem?_eq_some_iff.1 hi
  have hl2 : i < j := by rw [List.length_take] at hl; omega
  rw [List.getElem?_take_of_lt hl2] at hi
  have h1 := idx_of hd hi
  have h2 := idx_of hd hx
  omega
set_option maxHeartbeats 32000000 in
theorem wrSorted {w : World} {A : Option Addr} {n c : Nat} {cs : List Int} (hs : SB w A n (numC cs)) (hl : cs.length = n) (hn : n ≤ 4096) (hd : cs.Nodup) :
    Calls Tryz.prog 35 #[.slice A n c] w fun e w' => ∃ v, e = .returned v ∧ SO seI w.heap.size w' v (riseP cs).length (numC (riseP cs)) ∧ Below w.heap.size w w' := by
  have HS := Lib.hid hs
  have HL := Lib.hid hl
  have HN := Lib.hid hn
  have HD := Lib.hid hd
  clear hs hl hn hd
  go_enter Tryz.func35, Tryz.ntmps35
  go_upto_region 3 with fail
  go_loopg [3, 4] n (fun gk lv i wr => ∃ j : Nat, i = .int .i64 (j : Nat) ∧ gk + j = n ∧ SO seI w.heap.size wr lv (riseP (cs.take j)).length (numC (riseP (cs.take j))) ∧ Below w.heap.size w wr)
  case atStart => exact ⟨0, rfl, rfl, SO.nil _ _ _, Below.refl _ _⟩
  case round =>
    rename World => wr
    obtain ⟨j, rfl, hgk, hso, hb⟩ := hrel
    by_cases hlt : j < n
    · obtain ⟨x, hx⟩ : ∃ x, cs[j]? = some x := ⟨_, List.getElem?_eq_getElem (by rw [HL.out]; exact hlt)⟩
      obtain ⟨ga, oa, rfl, ca⟩ := (HS.out.gw hb).num hx
      have HRI := Lib.hid (rise_ins HD.out hx)
      have HLR := Lib.hid (show (riseP (cs.take j)).length ≤ 4096 by have := rise_len cs j; have := HL.out; have := HN.out; omega)
      obtain ⟨R, hR⟩ : ∃ R, riseP (cs.take j) = R := ⟨_, rfl⟩
      rw [hR] at HRI HLR hso
      obtain ⟨m, hm⟩ : ∃ m, R.length = m := ⟨_, rfl⟩
      rw [hm] at HLR hso
      obtain ⟨Ro, rc, rfl, hrs, hmc, hcm, hro⟩ := hso.form
      have hrs : SB wr Ro m (numC R) := by have := hrs; have e : seI.s * m = m := Nat.one_mul m; rwa [e] at this
      obtain ⟨p, hp⟩ : ∃ p, plN R x = p := ⟨_, rfl⟩
      have hpm : p ≤ m := by rw [← hp, ← hm]; exact plN_le R x
      rw [hp] at HRI
      have HP := Lib.hid hp
      have HPM := Lib.hid hpm
      have HM := Lib.hid hm
      have HRS := Lib.hid hrs
      have HMC := Lib.hid (And.intro hmc hcm)
      have HB := Lib.hid hb
      have HLT := Lib.hid hlt
      have HGK := Lib.hid hgk
      have i1 : (j : Int) < (n : Int) := by omega
      have l1 : (j : Int) ≤ 4096 := by have := HN.out; omega
      have l2 : (0 : Int) ≤ (j : Int) := by omega
      clear hx hlt hso hb hgk hm hmc hcm hrs hp hpm hR hro
      go_upto_block 2 with fail
      go_cut [5] (fun v5 wx => v5 = .int .i64 (p : Nat) ∧ Below wr.heap.size wr wx)
      case first =>
        go_upto_region 6 with fail
        go_loopw [5] (fun k wy => ∃ q : Nat, k = .int .i64 (q : Nat) ∧ q ≤ m ∧ (∀ i a, i < q → R[i]? = some a → a < x) ∧ Below wr.heap.size wr wy) (fun k _ => m - (intOf k).toNat)
        case atStart => exact ⟨0, rfl, Nat.zero_le _, fun i a h => absurd h (Nat.not_lt_zero _), Below.refl _ _⟩
        case round =>
          rename World => wy
          obtain ⟨q, rfl, hq, hlo, hby⟩ := hrel
          have ca' := keep_below ca hby
          by_cases hqm : q < m
          · obtain ⟨y, hy⟩ : ∃ y, R[q]? = some y := ⟨_, List.getElem?_eq_getElem (by rw [HM.out]; exact hqm)⟩
            obtain ⟨gr, orr, rfl, cr⟩ := (HRS.out.gw hby).num hy
            have d1 : decide ((q : Int) < (m : Int)) = true := by simp; omega
            have d1' : decide (q < m) = true := by simpa using hqm
            have q1 : (q : Int) < (m : Int) := by omega
            have q2 : (q : Int) ≤ 4096 := by have := HLR.out; omega
            have HY := Lib.hid hy
            have HLO := Lib.hid hlo
            have HBY := Lib.hid hby
            have HQM := Lib.hid hqm
            clear hy hlo hby hqm hq ca
            by_cases hyx : y < x
            · have d2 : decide (y < x) = true := by simpa using hyx
              have HYX := Lib.hid hyx
              clear hyx
              go_upto_region 6 with fail
              go_quiet (fail)
              go_wp2
              go_roundw
              case rel => exact ⟨q + 1, by go_num, HQM.out, fun i a hi h => by
                rcases Nat.lt_or_ge i q with k | k
                · exact HLO.out i a k h
                · have e : i = q := by omega
                  rw [e, HY.out] at h
                  rw [← Option.some.inj h]; exact HYX.out, below_next HBY.out (below_drewN11 _ _)⟩
              case measure => have := HQM.out; simp [intOf]; omega
            · have d2 : decide (y < x) = false := by simpa using hyx
              have HPQ := Lib.hid (show p = q from HP.out.symm.trans (plN_stop11 HLO.out (by rw [HM.out]; exact Nat.le_of_lt HQM.out) fun a ha => by rw [HY.out] at ha; rw [← Option.some.inj ha]; exact hyx))
              clear hyx
              go_upto_region 6 with fail
              go_quiet (fail)
              go_wp2
              go_meet
              exact ⟨by rw [HPQ.out], below_next HBY.out (below_drewN11 _ _)⟩
          · obtain rfl : q = m := by omega
            have d1 : decide ((q : Int) < (q : Int)) = false := by simp
            have HPQ := Lib.hid (show p = q from HP.out.symm.trans (plN_stop11 hlo (by rw [HM.out]; exact Nat.le_refl _) fun a ha => by rw [List.getElem?_eq_none (by rw [HM.out]; exact Nat.le_refl _)] at ha; cases ha))
            have HBY := Lib.hid hby
            clear hlo hby hqm hq ca
            go_upto_region 6 with fail
            go_quiet (fail)
            go_wp2
            go_meet
            exact ⟨by rw [HPQ.out], below_next HBY.out (below_drewN11 _ _)⟩
      case rest =>
        rename World => wx
        obtain ⟨rfl, hbx⟩ := hcut
        have ca' := keep_below ca hbx
        have l3 : (p : Int) ≤ 4096 := by have := HPM.out; have := HLR.out; omega
        obtain ⟨A2, hA2⟩ : ∃ (A2 : Option Addr), (if rc = p then Ro else Ro.map (·.add (p * seI.s))) = A2 := ⟨_, rfl⟩
        have RF : ∀ W, (Instr.slice 22 (.slice Ro m rc) (some (.int .i64 (p : Int))) none none).run Tryz.prog W = .ok (.slice A2 (m - p) (rc - p)) W := fun W => by rw [← hA2]; exact run_fromE seI_ok W Ro m rc p HPM.out HMC.out.1
        have RU : ∀ W, (Instr.slice 22 (.slice Ro m rc) none (some (.int .i64 (p : Int))) none).run Tryz.prog W = .ok (.slice Ro p rc) W := fun W => run_uptoE seI_ok W Ro m rc p (Nat.le_trans HPM.out HMC.out.1)
        have P0 := Lib.hid (show SB wr Ro (seI.s * m) (numC R) by rw [show seI.s * m = m from Nat.one_mul m]; exact HRS.out)
        have P1 := Lib.hid (show ∀ W, Below wr.heap.size wr W → SB W Ro (seI.s * p) (numC (R.take p)) from fun W hW => by
          rw [numC_take, show seI.s * p = p from Nat.one_mul p]
          exact (HRS.out.gw hW).take HPM.out)
        have P2 := Lib.hid (show ∀ W, Below wr.heap.size wr W → SB W A2 (seI.s * (m - p)) (numC (R.drop p)) from fun W hW => by
          have h1 := (P0.out.gw hW).cut (c := rc) HPM.out HMC.out.1
          rw [show seI.s * p = p from Nat.one_mul p, ← numC_drop, hA2] at h1
          exact h1)
        have BX := Lib.hid hbx
        have SBX := fun (W : World) => (show SB (W.alloc (.cells #[.int .i64 x] 3)) (some ⟨W.heap.size, 0, none⟩) (seI.s * 1) [.int .i64 x] from ⟨rfl, fun u hu => by rw [List.mem_singleton.1 hu]; rfl, fun _ => ⟨W.heap.size, 0, rfl, fun i u hi => by
          rw [cell_of_row _ _ _ _ _ _ (heap_alloc_new W _)]
          simpa using hi⟩⟩)
        have SBX := Lib.hid SBX
        clear hbx hA2 ca
        go_upto_region 10 with (at_builtin; go_loud (refine so_append seI_ok (by rfl) (.tmp 30) (.tmp 33) (by rfl) _ (by rfl) (SO.nil seI wx.heap.size _) Ro p rc (numC (R.take p)) (by rfl) (P1.out _ BX.out) (by have := HPM.out; have := HLR.out; omega) (Nat.le_refl _) ?_; intro v3 w3 o3 b3; have O3 := Lib.hid o3; have B3 := Lib.hid b3; have ca3 := keep_below ca' b3; clear o3 b3))
        clear ca'
        go_upto_region 11 with (at_builtin; go_loud (refine so_append seI_ok (by rfl) (.tmp 35) (.tmp 40) (by rfl) _ (by rfl) (O3.out.alloc _) (some ⟨w3.heap.size, 0, none⟩) 1 1 [.int .i64 x] (by rfl) (SBX.out w3) (by have := HPM.out; have := HLR.out; omega) (by have := B3.out.size; simp; omega) ?_; intro v5 w5 o5 b5; have O5 := Lib.hid o5; have B5 := Lib.hid ((B3.out.alloc B3.out.size _).trans b5); clear o5 b5))
        clear ca3
        go_wp2_with (at_builtin; go_loud (refine so_append seI_ok (by rfl) (.tmp 42) (.tmp 45) (by rfl) _ (by rfl) O5.out A2 (m - p) (rc - p) (numC (R.drop p)) (by rfl) (P2.out _ (BX.out.trans (B5.out.mono BX.out.size))) (by have := HPM.out; have := HLR.out; omega) B5.out.size ?_; intro v7 w7 o7 b7; have O7 := Lib.hid o7; have B7 := Lib.hid (B5.out.trans b7); clear o7 b7))
        go_roundg (gk - 1)
        case measure => have := HGK.out; have := HLT.out; omega
        case rel =>
          have hsz : w.heap.size ≤ wx.heap.size := Nat.le_trans HB.out.size BX.out.size
          have h7 := O7.out.lower hsz
          have hm := HM.out
          have hp := HPM.out
          have e : numC (R.take p) ++ [.int .i64 x] ++ numC (R.drop p) = numC (R.take p ++ [x] ++ R.drop p) := by simp [numC]
          have e2 : (R.take p ++ [x] ++ R.drop p).length = 0 + p + 1 + (m - p) := by simp; omega
          refine ⟨j + 1, by go_num, by have := HGK.out; have := HLT.out; omega, ?_, HB.out.trans ((BX.out.mono HB.out.size).trans (B7.out.mono hsz))⟩
          rw [HRI.out, e2, ← e]
          simpa using h7
    · obtain rfl : j = n := by omega
      have i1 : ¬ (j : Int) < (j : Int) := by omega
      rw [show cs.take j = cs by rw [← HL.out, List.take_length]] at hso
      have HSO := Lib.hid hso
      have HB := Lib.hid hb
      clear hlt hso hb hgk
      go_wp2
      go_ret
      exact ⟨_, rfl, HSO.out, HB.out⟩
end Go.Proofs.YtbmgeobmmpaghaaGreatDoor

/- Layer 11: the reference's Pivots. -/
namespace Go.Proofs.YtbmgeobmmpaghaaGreatDoor
set_option maxRecDepth 100000
open Go.RowKit

def toW (g : List Dp) (n : Int) : Bool := g.any fun d => decide (d.kd = 3) && decide (d.to = n)
def frW (g : List Dp) (n : Int) : Bool := g.any fun d => decide (d.kd = 3) && decide (d.fr = n)
def pvB (g : List Dp) (n : Int) : Bool := toW g n && frW g n
def pivP (cs : List Int) (g : List Dp) : List Int := (riseP cs).filter (pvB g)
theorem toW_next {g : List Dp} {j : Nat} {d : Dp} (h : g[j]? = some d) (n : Int) : toW (g.take (j + 1)) n = (toW (g.take j) n || (decide (d.kd = 3) && decide (d.to = n))) := by
  unfold toW; rw [List.take_add_one, h]; simp [List.any_append]
theorem frW_next {g : List Dp} {j : Nat} {d : Dp} (h : g[j]? = some d) (n : Int) : frW (g.take (j + 1)) n = (frW (g.take j) n || (decide (d.kd = 3) && decide (d.fr = n))) := by
  unfold frW; rw [List.take_add_one, h]; simp [List.any_append]
theorem filt_next {l : List Int} {p : Int → Bool} {j : Nat} {x : Int} (h : l[j]? = some x) : (l.take (j + 1)).filter p = if p x = true then (l.take j).filter p ++ [x] else (l.take j).filter p := by
  rw [List.take_add_one, h, Option.toList_some, List.filter_append]
  cases hp : p x <;> simp [hp]
section
variable {w : World} {A B : Option Addr} {n c m d : Nat} {cs : List Int} {ac : List Ac}
set_option maxHeartbeats 64000000 in
theorem wrPivots (h : Hist w A n c B m d cs ac) (hR : Right cs ac) :
    Calls Tryz.prog 15 #[histV A n c B m d] w fun e w' => ∃ v, e = .returned v ∧ SO seI w.heap.size w' v (pivP cs (graphP cs ac)).length (numC (pivP cs (graphP cs ac))) ∧ Below w.heap.size w w' := by
  obtain ⟨W0, hB⟩ := h.box
  have HB := Lib.hid hB
  have HW := Lib.hid hB.eq
  have x0 := hB.x0
  have x1 := hB.x1
  have hn : n ≤ 4096 := by rw [← h.cl]; exact hR.lc
  have hm : m ≤ 4096 := by rw [← h.al]; exact hR.la
  have CG := Lib.hid (fun W (hW : Below W0.heap.size W0 W) => wrGraph (hB.h.gw hW) hn hm)
  have CS := Lib.hid (fun W (hW : Below W0.heap.size W0 W) => wrSorted (c := c) (hB.h.cb.gw hW) hB.h.cl hn hR.nd)
  have HN := Lib.hid hn
  have HGL := Lib.hid (show (graphP cs ac).length ≤ 8192 by have := hR.edges_len; unfold edgesP at this; rwa [List.length_map] at this)
  have HRL := Lib.hid (show (riseP cs).length ≤ 4096 by have := rise_len cs cs.length; rw [List.take_length] at this; have := hR.lc; omega)
  have S0 : W0.drew.cell? ⟨w.heap.size, 0, none⟩ = some (.slice A n c) ∧ W0.drew.cell? ⟨w.heap.size, 1, none⟩ = some (.slice B m d) := ⟨x0, x1⟩
  have BD := Lib.hid (show Below W0.heap.size W0 W0.drew from (Below.refl _ _).drew)
  have SK := Lib.hid (fun W (hW : Below W0.heap.size W0 W) => (⟨keep_below x0 hW, keep_below x1 hW⟩ : W.cell? ⟨w.heap.size, 0, none⟩ = some (.slice A n c) ∧ W.cell? ⟨w.heap.size, 1, none⟩ = some (.slice B m d)))
  unfold pivP
  obtain ⟨GR, hGR⟩ : ∃ g, graphP cs ac = g := ⟨_, rfl⟩
  obtain ⟨NS, hNS⟩ : ∃ g, riseP cs = g := ⟨_, rfl⟩
  rw [hGR] at CG HGL ⊢
  rw [hNS] at CS HRL ⊢
  unfold histV at CG ⊢
  clear h hB hR hn hm hGR hNS
  go_enter Tryz.func15, Tryz.ntmps15
  go_upto_region 1 with fail
  rw [HW.out]
  go_cut [3, 4] (fun v3 v4 wx => DL wx v3 GR ∧ SO seI W0.heap.size wx v4 NS.length (numC NS) ∧ Below W0.heap.size W0 wx)
  case first =>
    go_region_held3 (fun W => W.cell? ⟨w.heap.size, 0, none⟩ = some (.slice A n c) ∧ W.cell? ⟨w.heap.size, 1, none⟩ = some (.slice B m d)) (first | exact S0 | exact SK.out _ B2.out | exact SK.out _ B3.out | exact SK.out _ BD.out) (first
      | (go_at_call 13; go_loud (refine (CG.out _ (by first | exact B3.out | exact BD.out)).mono ?_; rintro e w2 ⟨v2, rfl, d2, b2⟩; have B2 := Lib.hid (show Below W0.heap.size W0 w2 by first | exact below_next B3.out b2 | exact below_next BD.out b2); have D2 := Lib.hid d2; have Q2 := Lib.hid b2; clear d2 b2))
      | (go_at_call 35; go_loud (refine (CS.out _ (by first | exact B2.out | exact BD.out)).mono ?_; rintro e w3 ⟨v3, rfl, s3, b3⟩; have B3 := Lib.hid (show Below W0.heap.size W0 w3 by first | exact below_next B2.out b3 | exact below_next BD.out b3); have S3 := Lib.hid s3; have Q3 := Lib.hid b3; clear s3 b3)))
    all_goals go_wp2_with fail
    all_goals go_meet
    all_goals (first | exact ⟨D2.out.gw Q3.out, S3.out.lower B2.out.size, B3.out⟩ | exact ⟨D2.out, (S3.out.lower (Nat.le_refl _)).below Q2.out, B2.out⟩)
  case rest =>
    rename World => wc
    obtain ⟨⟨GA, gc, rfl, gs, ggc, gcm⟩, hso, hbc⟩ := hcut
    obtain ⟨NA, nc, rfl, nsb, nnc, ncm, -⟩ := hso.form
    have nsb : SB wc NA NS.length (numC NS) := by have e : seI.s * NS.length = NS.length := Nat.one_mul _; rwa [e] at nsb
    obtain ⟨q, hq⟩ : ∃ q, GR.length = q := ⟨_, rfl⟩
    obtain ⟨r, hr⟩ : ∃ r, NS.length = r := ⟨_, rfl⟩
    have GS := Lib.hid gs
    have NSB := Lib.hid nsb
    have HQ := Lib.hid hq
    have HRR := Lib.hid hr
    rw [hq] at HGL ⊢
    rw [hr] at HRL NSB ⊢
    have BC := Lib.hid (show Below w.heap.size w wc from below_next HB.out.below hbc)
    clear gs ggc gcm hso nsb nnc ncm hq hr hbc S0 x0 x1
    go_upto_region 4 with fail
    go_loopw [5, 6] (fun lv i wr => ∃ j : Nat, i = .int .i64 (j : Nat) ∧ j ≤ r ∧ SO seI wc.heap.size wr lv ((NS.take j).filter (pvB GR)).length (numC ((NS.take j).filter (pvB GR))) ∧ Below wc.heap.size wc wr) (fun _ i _ => r - (intOf i).toNat)
    case atStart => exact ⟨0, rfl, Nat.zero_le _, SO.nil _ _ _, Below.refl _ _⟩
    case round =>
      rename World => wr
      obtain ⟨j, rfl, hj, hso, hb⟩ := hrel
      by_cases hlt : j < r
      · obtain ⟨x, hx⟩ : ∃ x, NS[j]? = some x := ⟨_, List.getElem?_eq_getElem (by rw [HRR.out]; exact hlt)⟩
        obtain ⟨gn, on, rfl, cx⟩ := (NSB.out.gw hb).num hx
        have HF := Lib.hid (filt_next (p := pvB GR) hx)
        have HLN := Lib.hid (show ((NS.take j).filter (pvB GR)).length ≤ 4096 by have := List.length_filter_le (pvB GR) (NS.take j); rw [List.length_take] at this; have := HRL.out; omega)
        have HSO := Lib.hid hso
        have HB2 := Lib.hid hb
        have HLT := Lib.hid hlt
        have i1 : (j : Int) < (r : Int) := by omega
        have l1 : (j : Int) ≤ 4096 := by have := HRL.out; omega
        obtain ⟨FL, hFL⟩ : ∃ l, (NS.take j).filter (pvB GR) = l := ⟨_, rfl⟩
        rw [hFL] at HF HLN HSO
        clear hso hb hlt hx hj hFL
        go_upto_region 8 with fail
        go_loopw [7, 8, 9] (fun a b k wy => ∃ k' : Nat, k = .int .i64 (k' : Nat) ∧ a = .bool (toW (GR.take k') x) ∧ b = .bool (frW (GR.take k') x) ∧ k' ≤ q ∧ Below wr.heap.size wr wy) (fun _ _ k _ => q - (intOf k).toNat)
        case atStart => exact ⟨0, rfl, rfl, rfl, Nat.zero_le _, Below.refl _ _⟩
        case round =>
          rename World => wy
          obtain ⟨k, rfl, rfl, rfl, hk, hby⟩ := hrel
          by_cases hkq : k < q
          · obtain ⟨y, hy⟩ : ∃ y, GR[k]? = some y := ⟨_, List.getElem?_eq_getElem (by rw [HQ.out]; exact hkq)⟩
            obtain ⟨gd, od, rfl, c0, c1, c2⟩ := DL.at_ (GS.out.gw (below_next HB2.out hby)) hy
            have cx' := keep_below cx hby
            have HT := Lib.hid (toW_next hy x)
            have HFR := Lib.hid (frW_next hy x)
            have j1 : (k : Int) < (q : Int) := by omega
            have j2 : (k : Int) ≤ 8192 := by have := HGL.out; omega
            have HKQ := Lib.hid hkq
            have HBY := Lib.hid hby
            obtain ⟨t0, ht0⟩ : ∃ t, toW (GR.take k) x = t := ⟨_, rfl⟩
            obtain ⟨f0, hf0⟩ : ∃ t, frW (GR.take k) x = t := ⟨_, rfl⟩
            rw [ht0] at HT ⊢
            rw [hf0] at HFR ⊢
            obtain ⟨yf, yt, yk⟩ := y
            dsimp only at c0 c1 c2 HT HFR
            clear hkq hby hy hk ht0 hf0 cx
            by_cases hk3 : yk = 3
            · subst hk3
              by_cases hyt : yt = x
              · subst hyt
                by_cases hyf : yf = yt
                · subst hyf
                  cases t0 <;> cases f0
                  all_goals
                    (have HT' := HT.out
                     have HF' := HFR.out
                     simp  at HT' HF'
                     have T1 := Lib.hid HT'
                     have F1 := Lib.hid HF'
                     clear HT' HF' HT HFR
                     go_upto_region 10 with fail
                     go_quiet (fail)
                     go_upto_region 11 with fail
                     go_quiet (fail)
                     go_wp2
                     go_roundw
                     case rel => exact ⟨k + 1, by go_num, by rw [T1.out], by rw [F1.out], HKQ.out, below_next HBY.out (by first | exact below_drewN11 _ _ | exact below_next (below_drewN11 _ _) (below_drewN11 _ _))⟩
                     case measure => have := HKQ.out; simp [intOf]; omega)
                · have e2 : (yf == yt) = false := by simpa using hyf
                  cases t0 <;> cases f0
                  all_goals
                    (have HT' := HT.out
                     have HF' := HFR.out
                     simp [hyf] at HT' HF'
                     have T1 := Lib.hid HT'
                     have F1 := Lib.hid HF'
                     clear HT' HF' HT HFR
                     go_upto_region 10 with fail
                     go_quiet (fail)
                     go_upto_region 11 with fail
                     go_quiet (fail)
                     go_wp2
                     go_roundw
                     case rel => exact ⟨k + 1, by go_num, by rw [T1.out], by rw [F1.out], HKQ.out, below_next HBY.out (by first | exact below_drewN11 _ _ | exact below_next (below_drewN11 _ _) (below_drewN11 _ _))⟩
                     case measure => have := HKQ.out; simp [intOf]; omega)
              · have e1 : (yt == x) = false := by simpa using hyt
                by_cases hyf : yf = x
                · subst hyf
                  cases t0 <;> cases f0
                  all_goals
                    (have HT' := HT.out
                     have HF' := HFR.out
                     simp [hyt] at HT' HF'
                     have T1 := Lib.hid HT'
                     have F1 := Lib.hid HF'
                     clear HT' HF' HT HFR
                     go_upto_region 10 with fail
                     go_quiet (fail)
                     go_upto_region 11 with fail
                     go_quiet (fail)
                     go_wp2
                     go_roundw
                     case rel => exact ⟨k + 1, by go_num, by rw [T1.out], by rw [F1.out], HKQ.out, below_next HBY.out (by first | exact below_drewN11 _ _ | exact below_next (below_drewN11 _ _) (below_drewN11 _ _))⟩
                     case measure => have := HKQ.out; simp [intOf]; omega)
                · have e2 : (yf == x) = false := by simpa using hyf
                  cases t0 <;> cases f0
                  all_goals
                    (have HT' := HT.out
                     have HF' := HFR.out
                     simp [hyt, hyf] at HT' HF'
                     have T1 := Lib.hid HT'
                     have F1 := Lib.hid HF'
                     clear HT' HF' HT HFR
                     go_upto_region 10 with fail
                     go_quiet (fail)
                     go_upto_region 11 with fail
                     go_quiet (fail)
                     go_wp2
                     go_roundw
                     case rel => exact ⟨k + 1, by go_num, by rw [T1.out], by rw [F1.out], HKQ.out, below_next HBY.out (by first | exact below_drewN11 _ _ | exact below_next (below_drewN11 _ _) (below_drewN11 _ _))⟩
                     case measure => have := HKQ.out; simp [intOf]; omega)
            · have e3 : (yk == 3) = false := by simpa using hk3
              cases t0 <;> cases f0
              all_goals
                    (have HT' := HT.out
                     have HF' := HFR.out
                     simp [hk3] at HT' HF'
                     have T1 := Lib.hid HT'
                     have F1 := Lib.hid HF'
                     clear HT' HF' HT HFR
                     go_upto_region 10 with fail
                     go_quiet (fail)
                     go_upto_region 11 with fail
                     go_quiet (fail)
                     go_wp2
                     go_roundw
                     case rel => exact ⟨k + 1, by go_num, by rw [T1.out], by rw [F1.out], HKQ.out, below_next HBY.out (by first | exact below_drewN11 _ _ | exact below_next (below_drewN11 _ _) (below_drewN11 _ _))⟩
                     case measure => have := HKQ.out; simp [intOf]; omega)
          · obtain rfl : k = q := by omega
            have j1 : ¬ (k : Int) < (k : Int) := by omega
            rw [show GR.take k = GR by rw [← HQ.out, List.take_length]]
            have HBY := Lib.hid hby
            have cx' := keep_below cx hby
            obtain ⟨t0, ht0⟩ : ∃ t, toW GR x = t := ⟨_, rfl⟩
            obtain ⟨f0, hf0⟩ : ∃ t, frW GR x = t := ⟨_, rfl⟩
            have HPV := Lib.hid (show pvB GR x = (t0 && f0) by unfold pvB; rw [ht0, hf0])
            rw [ht0, hf0]
            clear hkq hby hk ht0 hf0 cx
            cases t0
            · cases f0
              · have HF2 := Lib.hid (show (NS.take (j + 1)).filter (pvB GR) = FL by rw [HF.out, HPV.out]; rfl)
                clear cx'
                go_wp2
                go_roundw
                case rel => exact ⟨j + 1, by go_num, HLT.out, by rw [HF2.out]; exact HSO.out.below HBY.out, HB2.out.trans (HBY.out.mono HB2.out.size)⟩
                case measure => have := HLT.out; simp [intOf]; omega
              · have HF2 := Lib.hid (show (NS.take (j + 1)).filter (pvB GR) = FL by rw [HF.out, HPV.out]; rfl)
                clear cx'
                go_wp2
                go_roundw
                case rel => exact ⟨j + 1, by go_num, HLT.out, by rw [HF2.out]; exact HSO.out.below HBY.out, HB2.out.trans (HBY.out.mono HB2.out.size)⟩
                case measure => have := HLT.out; simp [intOf]; omega
            · cases f0
              · have HF2 := Lib.hid (show (NS.take (j + 1)).filter (pvB GR) = FL by rw [HF.out, HPV.out]; rfl)
                clear cx'
                go_wp2
                go_roundw
                case rel => exact ⟨j + 1, by go_num, HLT.out, by rw [HF2.out]; exact HSO.out.below HBY.out, HB2.out.trans (HBY.out.mono HB2.out.size)⟩
                case measure => have := HLT.out; simp [intOf]; omega
              · have HF2 := Lib.hid (show (NS.take (j + 1)).filter (pvB GR) = FL ++ [x] by rw [HF.out, HPV.out]; rfl)
                have SBX := Lib.hid (show SB (wy.alloc (.cells #[.int .i64 x] 3)) (some ⟨wy.heap.size, 0, none⟩) (seI.s * 1) [.int .i64 x] from ⟨rfl, fun u hu => by rw [List.mem_singleton.1 hu]; rfl, fun _ => ⟨wy.heap.size, 0, rfl, fun i u hi => by
                  rw [cell_of_row _ _ _ _ _ _ (heap_alloc_new wy _)]
                  simpa using hi⟩⟩)
                have SOY := Lib.hid ((HSO.out.below HBY.out).alloc (.cells #[.int .i64 x] 3))
                have BY2 := Lib.hid (HB2.out.trans (HBY.out.mono HB2.out.size))
                go_wp2_with (at_builtin; go_loud (refine so_append seI_ok (by rfl) (.tmp 73) (.tmp 78) (by rfl) _ (by rfl) SOY.out (some ⟨wy.heap.size, 0, none⟩) 1 1 [.int .i64 x] (by rfl) SBX.out (by have := HLN.out; omega) (by have := BY2.out.size; simp; omega) ?_; intro v5 w5 o5 b5; have O5 := Lib.hid o5; have B5 := Lib.hid b5; clear o5 b5))
                go_roundw
                case rel =>
                  refine ⟨j + 1, by go_num, HLT.out, ?_, (BY2.out.alloc BY2.out.size _).trans B5.out⟩
                  rw [HF2.out, List.length_append, List.length_singleton, show numC (FL ++ [x]) = numC FL ++ [.int .i64 x] by simp [numC]]
                  exact O5.out
                case measure => have := HLT.out; simp [intOf]; omega
      · obtain rfl : j = r := by omega
        have i1 : ¬ (j : Int) < (j : Int) := by omega
        rw [show NS.take j = NS by rw [← HRR.out, List.take_length]] at hso
        have HSO := Lib.hid hso
        have HB2 := Lib.hid hb
        clear hso hb hlt hj
        go_wp2
        go_ret
        exact ⟨_, rfl, HSO.out.lower BC.out.size, BC.out.trans (HB2.out.mono BC.out.size)⟩
end
end Go.Proofs.YtbmgeobmmpaghaaGreatDoor
