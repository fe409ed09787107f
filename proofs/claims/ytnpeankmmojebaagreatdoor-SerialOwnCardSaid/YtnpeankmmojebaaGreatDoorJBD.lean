import Derived.Test.YtnpeankmmojebaaGreatDoorSeRo
import Derived.Test.YtnpeankmmojebaaGreatDoorSeE
import Derived.Test.YtnpeankmmojebaaGreatDoorJAK
/- Layer 11: the net of a right history, plainly. -/
set_option linter.unusedVariables false
namespace Go.Proofs.YtnpeankmmojebaaGreatDoor
set_option maxRecDepth 100000
set_option maxRecDepth 100000

theorem idx_lt {ns : List Int} (h : ns.Pairwise (ltN · · = true)) {x y : Int} (hx : x ∈ ns) (hy : y ∈ ns) : ns.idxOf x < ns.idxOf y ↔ x < y := by
  have e1 := List.idxOf_lt_length_of_mem hx
  have e2 := List.idxOf_lt_length_of_mem hy
  have key : ∀ a b : Int, a ∈ ns → b ∈ ns → ns.idxOf a < ns.idxOf b → a < b := fun a b ha hb hlt => by
    have h1 := List.idxOf_lt_length_of_mem ha
    have h2 := List.idxOf_lt_length_of_mem hb
    have := List.pairwise_iff_getElem.1 h _ _ h1 h2 hlt
    rw [List.getElem_idxOf, List.getElem_idxOf] at this
    simpa [ltN] using this
  constructor
  · exact key x y hx hy
  · intro hxy
    rcases Nat.lt_trichotomy (ns.idxOf x) (ns.idxOf y) with k | k | k
    · exact k
    · exfalso
      have h1 := List.getElem_idxOf e1
      have h2 := List.getElem_idxOf e2
      have : x = y := by
        rw [← h1, ← h2]
        simp only [k]
      omega
    · have := key y x hy hx k; omega
section
variable {cs : List Int} {ac : List Ac}
theorem Right.edOk (h : Right cs ac) : EdOk (edgesP (riseP cs) (graphP cs ac)) cs.length := by
  have hl : (riseP cs).length = cs.length := by rw [← sorted_is h.nd, List.length_mergeSort]
  have hr := (rise_is cs).1
  have hm := (rise_is cs).2
  constructor
  · intro e he
    obtain ⟨d, hd, rfl⟩ := List.mem_map.1 he
    obtain ⟨h1, h2, -⟩ := h.graph_mem hd
    rw [← hl]
    exact ⟨List.idxOf_lt_length_of_mem ((hm _).2 h1), List.idxOf_lt_length_of_mem ((hm _).2 h2)⟩
  · intro e he k
    obtain ⟨d, hd, rfl⟩ := List.mem_map.1 he
    obtain ⟨h1, h2, h3⟩ := h.graph_mem hd
    have i1 := idx_lt hr ((hm _).2 h1) ((hm _).2 h2)
    have i2 := idx_lt hr ((hm _).2 h2) ((hm _).2 h1)
    unfold edgeP at k
    dsimp only at k
    rw [k] at i1 i2
    have := fun q => Nat.lt_irrefl _ (i1.2 q)
    have := fun q => Nat.lt_irrefl _ (i2.2 q)
    exact h3 (by omega)
theorem Right.outs_rise (h : Right cs ac) (x : Nat) : (outsP (edgesP (riseP cs) (graphP cs ac)) x).Pairwise (· ≤ ·) := by
  have hr := (rise_is cs).1
  have hm := (rise_is cs).2
  have key : (graphP cs ac).Pairwise fun a b => (edgeP (riseP cs) a).1 = (edgeP (riseP cs) b).1 → (edgeP (riseP cs) a).2 ≤ (edgeP (riseP cs) b).2 := by
    refine (graph_is cs ac).1.imp_of_mem fun {a b} ha hb hab e => ?_
    obtain ⟨a1, a2, -⟩ := h.graph_mem ha
    obtain ⟨b1, b2, -⟩ := h.graph_mem hb
    have i1 := idx_lt hr ((hm _).2 a1) ((hm _).2 b1)
    have i2 := idx_lt hr ((hm _).2 b1) ((hm _).2 a1)
    unfold edgeP at e ⊢
    dsimp only at e ⊢
    rw [e] at i1 i2
    have := fun q => Nat.lt_irrefl _ (i1.2 q)
    have := fun q => Nat.lt_irrefl _ (i2.2 q)
    have hfr : a.fr = b.fr := by omega
    have hto : a.to ≤ b.to := by
      unfold lessD at hab
      rw [if_pos hfr] at hab
      split at hab
      · omega
      · have := of_decide_eq_true hab; omega
    rcases Int.lt_or_eq_of_le hto with k | k
    · exact Nat.le_of_lt ((idx_lt hr ((hm _).2 a2) ((hm _).2 b2)).2 k)
    · rw [k]; exact Nat.le_refl _
  unfold outsP edgesP
  rw [List.pairwise_map]
  have h1 := (List.pairwise_map (f := edgeP (riseP cs)) (R := fun e e' => e.1 = e'.1 → e.2 ≤ e'.2)).2 key
  have h2 := h1.filter (fun e => decide (e.1 = x))
  refine h2.imp_of_mem fun {a b} ha hb k => k ?_
  have := of_decide_eq_true (List.mem_filter.1 ha).2
  have := of_decide_eq_true (List.mem_filter.1 hb).2
  omega
theorem Right.edges_len (h : Right cs ac) : (edgesP (riseP cs) (graphP cs ac)).length ≤ 8192 := by
  unfold edgesP
  rw [List.length_map]
  have := graph_len cs ac ac []
  unfold graphP
  simp at this
  have := h.la
  omega
end
/-- The round of a history, as numbers. -/
def RdIs (cs : List Int) (ac : List Ac) (l : List Int) : Prop := ∃ r, RoundIs (edgesP (riseP cs) (graphP cs ac)) cs.length r ∧ (∀ x ∈ r, x < cs.length) ∧ l = r.map fun x => (riseP cs).getD x 0
theorem RdIs.unique {cs : List Int} {ac : List Ac} {l m : List Int} (h : RdIs cs ac l) (k : RdIs cs ac m) : l = m := by
  obtain ⟨r, h1, -, rfl⟩ := h
  obtain ⟨q, k1, -, rfl⟩ := k
  rw [h1.unique k1]
end Go.Proofs.YtnpeankmmojebaaGreatDoor

/- Layer 11: the program's Check, walked. -/
namespace Go.Proofs.YtnpeankmmojebaaGreatDoor
set_option maxRecDepth 100000
set_option maxRecDepth 100000
open Go.RowKit Go.Maps Go.ChangeMaps Go.MapKept

def okH (cs : List Int) (ac : List Ac) : Bool := decide (ac.length ≤ 4096) && decide (cs.length ≤ 4096) && rightB cs ac
theorem okH_iff {cs : List Int} {ac : List Ac} : okH cs ac = true ↔ Right cs ac := by
  unfold okH
  rw [Bool.and_eq_true, Bool.and_eq_true, decide_eq_true_eq, decide_eq_true_eq]
  constructor
  · rintro ⟨⟨h1, h2⟩, h3⟩; exact (rightB_iff h1 h2).1 h3
  · intro h; exact ⟨⟨h.la, h.lc⟩, (rightB_iff h.la h.lc).2 h⟩
/-- ErrHistory, or OK. -/
def errH (cs : List Int) (ac : List Ac) : Int := if okH cs ac = true then 0 else 110
set_option maxHeartbeats 8000000 in
theorem wsCheck {w : World} {A B : Option Addr} {n c m d : Nat} {cs : List Int} {ac : List Ac} (h : Hist w A n c B m d cs ac) :
    Calls Tryz.prog 22 #[histV A n c B m d] w fun e w' => e = .returned (.int .i64 (errH cs ac)) ∧ Below w.heap.size w w' := by
  obtain ⟨W0, hW0⟩ : ∃ W, w.alloc (.cells #[.slice A n c, .slice B m d] 25) = W := ⟨_, rfl⟩
  have b0 : Below w.heap.size w W0 := by rw [← hW0]; exact alloc_below11 _ _
  have q0 : W0.heap[w.heap.size]? = some (.cells #[.slice A n c, .slice B m d] 25 (0, 0)) := by rw [← hW0]; exact heap_alloc_new _ _
  have x0 : W0.cell? ⟨w.heap.size, 0, none⟩ = some (.slice A n c) := cell_of_row _ _ 0 _ _ _ q0
  have x1 : W0.cell? ⟨w.heap.size, 1, none⟩ = some (.slice B m d) := cell_of_row _ _ 1 _ _ _ q0
  have HC := Lib.hid h.cl
  have HA := Lib.hid h.al
  have h0 := h.gw b0
  have B0 := Lib.hid b0
  have HW0 := Lib.hid hW0
  have hd := h.md
  have hc := h.nc
  simp only [maxLen] at hd hc
  by_cases hm : m ≤ 4096
  · by_cases hn : n ≤ 4096
    · have CR := Lib.hid (wsRight h0 hn hm)
      have HE := Lib.hid (show errH cs ac = if rightB cs ac = true then 0 else 110 by unfold errH okH; rw [HC.out, HA.out]; simp [hm, hn])
      rw [HE.out]
      have i1 : ¬ (4096 : Int) < (m : Int) := by omega
      have i2 : ¬ (4096 : Int) < (n : Int) := by omega
      have i3 : decide ((4096 : Int) < (m : Int)) = false := by simpa using i1
      have i4 : decide ((4096 : Int) < (n : Int)) = false := by simpa using i2
      clear h h0 b0 q0 hW0 hm hn hd hc HE
      unfold histV
      unfold histV at CR
      cases hr : rightB cs ac <;> rw [hr] at CR
      all_goals
        clear hr
        go_enter Tryz.func22, Tryz.ntmps22
        go_upto_region 1 with fail
        rw [HW0.out]
        go_wp2_with (go_at_call 41; go_loud (refine CR.out.mono ?_; rintro e w3 ⟨rfl, b3⟩; have B3 := Lib.hid b3; clear b3))
        go_ret
        exact ⟨by simp, below_next B0.out B3.out⟩
    · have HE := Lib.hid (show errH cs ac = 110 by unfold errH okH; rw [HC.out, HA.out]; simp [hn])
      rw [HE.out]
      have i1 : ¬ (4096 : Int) < (m : Int) := by omega
      have i2 : (4096 : Int) < (n : Int) := by omega
      have i3 : decide ((4096 : Int) < (m : Int)) = false := by simpa using i1
      have i4 : decide ((4096 : Int) < (n : Int)) = true := by simpa using i2
      clear h h0 b0 q0 hW0 hm hn hd hc HE
      unfold histV
      go_enter Tryz.func22, Tryz.ntmps22
      go_upto_region 1 with fail
      rw [HW0.out]
      go_wp2
      go_ret
      exact ⟨rfl, B0.out⟩
  · have HE := Lib.hid (show errH cs ac = 110 by unfold errH okH; rw [HC.out, HA.out]; simp [hm])
    rw [HE.out]
    have i1 : (4096 : Int) < (m : Int) := by omega
    have i3 : decide ((4096 : Int) < (m : Int)) = true := by simpa using i1
    clear h h0 b0 q0 hW0 hm hd hc HE
    unfold histV
    go_enter Tryz.func22, Tryz.ntmps22
    go_upto_region 1 with fail
    rw [HW0.out]
    go_wp2
    go_ret
    exact ⟨rfl, B0.out⟩
end Go.Proofs.YtnpeankmmojebaaGreatDoor

/- Layer 11: the reference's act and Check. -/
namespace Go.Proofs.YtnpeankmmojebaaGreatDoor
set_option maxRecDepth 100000
set_option maxRecDepth 100000
open Go.RowKit

section
variable {w : World} {A B : Option Addr} {n c m d : Nat} {cs : List Int} {ac : List Ac}
set_option maxHeartbeats 16000000 in
theorem wrAct (h : Hist w A n c B m d cs ac) (hn : n ≤ 4096) (hm : m ≤ 4096) {i : Nat} {a : Ac} (hi : ac[i]? = some a) :
    Calls Tryz.prog 40 #[histV A n c B m d, .int .i64 (i : Nat)] w fun e w' => e = .returned (.bool (actP cs ac i a)) ∧ Below w.heap.size w w' := by
  obtain ⟨W0, hB⟩ := h.box
  obtain ⟨X, hX⟩ := a.box W0
  have HX := Lib.hid (hX.eq)
  have x1 := hB.x1
  have y0 := keep_below hB.x0 hX.below
  have y1 := keep_below hB.x1 hX.below
  have d0 := hX.d0
  have d1 := hX.d1
  have d2 := hX.d2
  have d3 := hX.d3
  have HXX := Lib.hid (hB.h.gw hX.below)
  have CP := Lib.hid (wrPlace (hB.h.gw hX.below) hn a.txn)
  have BX := Lib.hid (below_next hB.below hX.below)
  have HB := Lib.hid hB
  have HW := Lib.hid hB.eq
  have HN := Lib.hid hn
  have HM := Lib.hid hm
  have him : i < m := by have := (List.getElem?_eq_some_iff.1 hi).1; have := h.al; omega
  obtain ⟨g, o, rfl, c0, c1, c2, c3⟩ := hB.h.act hi
  have i1 : (i : Int) < (m : Int) := by omega
  have l2 : (0 : Int) ≤ (i : Int) := by omega
  have l1 : (i : Int) ≤ 4096 := by omega
  have HI := Lib.hid him
  clear h hB hn hm hX hi him
  obtain ⟨at_, aw, ai, av⟩ := a
  dsimp only at *
  have HAP := Lib.hid (show actP cs ac i ⟨at_, aw, ai, av⟩ = (!decide (plcP cs at_ < 0) && if aw then !(ac.take i).any (wrB at_ ai) && decide (av = 0) else decide (av = 0) || (decide (0 ≤ plcP cs av) && writesP ac av ai)) from rfl)
  rw [HAP.out]
  unfold histV at CP
  unfold histV
  generalize plcP cs at_ = z at CP ⊢
  clear HAP
  by_cases hz : z < 0
  · rw [show decide (z < 0) = true by simpa using hz, Bool.not_true, Bool.false_and]
    go_enter Tryz.func40, Tryz.ntmps40
    go_upto_region 1 with fail
    rw [HW.out]
    go_upto_region 2 with fail
    rw [HX.out]
    clear c0 c1 c2 c3
    go_wp2_with (go_at_call 39; go_loud (refine CP.out.mono ?_; rintro e w2 ⟨rfl, b2⟩; have B2 := Lib.hid b2; clear b2))
    go_ret
    exact ⟨by simp, below_next BX.out B2.out⟩
  · rw [show decide (z < 0) = false by simpa using hz, Bool.not_false, Bool.true_and]
    cases aw
    · rw [if_neg (by simp)]
      by_cases hv : av = 0
      · subst hv
        rw [show decide ((0 : Int) = 0) = true from rfl, Bool.true_or]
        go_enter Tryz.func40, Tryz.ntmps40
        go_upto_region 1 with fail
        rw [HW.out]
        go_upto_region 2 with fail
        rw [HX.out]
        clear c0 c1 c2 c3
        go_wp2_with (go_at_call 39; go_loud (refine CP.out.mono ?_; rintro e w2 ⟨rfl, b2⟩; have B2 := Lib.hid b2; have z0 := keep_below y0 b2; have z1 := keep_below y1 b2; have e0 := keep_below d0 b2; have e1 := keep_below d1 b2; have e2 := keep_below d2 b2; have e3 := keep_below d3 b2; clear b2))
        go_ret
        exact ⟨by simp, below_next BX.out B2.out⟩
      · have hv' : (av == 0) = false := by simpa using hv
        rw [show decide (av = 0) = false by simpa using hv, Bool.false_or]
        have CV := Lib.hid (fun W (hW : Below X.heap.size X W) => wrPlace (HXX.out.gw hW) HN.out av)
        obtain ⟨z2, hz2⟩ : ∃ z2, plcP cs av = z2 := ⟨_, rfl⟩
        rw [hz2] at CV ⊢
        obtain ⟨q2, hq2⟩ : ∃ q2, writesP ac av ai = q2 := ⟨_, rfl⟩
        have CWW := Lib.hid (fun W (hW : Below X.heap.size X W) => wrWrites (HXX.out.gw hW) HM.out av ai)
        rw [hq2] at CWW ⊢
        unfold histV at CV CWW
        clear hz2 hq2
        by_cases hzz : (0 : Int) ≤ z2
        · rw [show decide ((0 : Int) ≤ z2) = true by simpa using hzz, Bool.true_and]
          have hzz' : decide ((0 : Int) ≤ z2) = true := by simpa using hzz
          go_enter Tryz.func40, Tryz.ntmps40
          go_upto_region 1 with fail
          rw [HW.out]
          go_upto_region 2 with fail
          rw [HX.out]
          clear c0 c1 c2 c3
          go_upto_region 5 with (go_at_call 39; go_loud (refine CP.out.mono ?_; rintro e w2 ⟨rfl, b2⟩; have B2 := Lib.hid b2; have z0 := keep_below y0 b2; have z1 := keep_below y1 b2; have e0 := keep_below d0 b2; have e1 := keep_below d1 b2; have e2 := keep_below d2 b2; have e3 := keep_below d3 b2; clear b2))
          clear y0 y1 d0 d1 d2 d3
          go_wp2_with (first
            | (go_at_call 39; go_loud (refine (CV.out _ B2.out).mono ?_; rintro e w3 ⟨rfl, b3⟩; have B3 := Lib.hid b3; have z0' := keep_below z0 b3; have z1' := keep_below z1 b3; have e2' := keep_below e2 b3; have e3' := keep_below e3 b3; clear b3))
            | (go_at_call 61; go_loud (refine (CWW.out _ (below_next B2.out B3.out)).mono ?_; rintro e w4 ⟨rfl, b4⟩; have B4 := Lib.hid b4; clear b4)))
          go_ret
          exact ⟨by first | rfl | simp, below_next (below_next (below_next BX.out B2.out) B3.out) B4.out⟩
        · rw [show decide ((0 : Int) ≤ z2) = false by simpa using hzz, Bool.false_and]
          have hzz' : decide ((0 : Int) ≤ z2) = false := by simpa using hzz
          go_enter Tryz.func40, Tryz.ntmps40
          go_upto_region 1 with fail
          rw [HW.out]
          go_upto_region 2 with fail
          rw [HX.out]
          clear c0 c1 c2 c3
          go_upto_region 5 with (go_at_call 39; go_loud (refine CP.out.mono ?_; rintro e w2 ⟨rfl, b2⟩; have B2 := Lib.hid b2; have z0 := keep_below y0 b2; have z1 := keep_below y1 b2; have e0 := keep_below d0 b2; have e1 := keep_below d1 b2; have e2 := keep_below d2 b2; have e3 := keep_below d3 b2; clear b2))
          clear y0 y1 d0 d1 d2 d3
          go_wp2_with (first
            | (go_at_call 39; go_loud (refine (CV.out _ B2.out).mono ?_; rintro e w3 ⟨rfl, b3⟩; have B3 := Lib.hid b3; have z0' := keep_below z0 b3; have z1' := keep_below z1 b3; have e2' := keep_below e2 b3; have e3' := keep_below e3 b3; clear b3))
            | (go_at_call 61; go_loud (refine (CWW.out _ (below_next B2.out B3.out)).mono ?_; rintro e w4 ⟨rfl, b4⟩; have B4 := Lib.hid b4; clear b4)))
          go_ret
          exact ⟨by first | rfl | simp, below_next (below_next BX.out B2.out) B3.out⟩
    · rw [if_pos rfl]
      obtain ⟨qA, hqA⟩ : ∃ q, (ac.take i).any (wrB at_ ai) = q := ⟨_, rfl⟩
      obtain ⟨qv, hqv⟩ : ∃ q, decide (av = 0) = q := ⟨_, rfl⟩
      rw [hqA, hqv]
      have HQA := Lib.hid hqA
      have HQV := Lib.hid hqv
      clear hqA hqv
      go_enter Tryz.func40, Tryz.ntmps40
      go_upto_region 1 with fail
      rw [HW.out]
      go_upto_region 2 with fail
      rw [HX.out]
      clear c0 c1 c2 c3
      go_upto_region 7 with (go_at_call 39; go_loud (refine CP.out.mono ?_; rintro e w2 ⟨rfl, b2⟩; have B2 := Lib.hid b2; have HX2 := Lib.hid (HXX.out.gw b2); have z1 := keep_below y1 b2; have e0 := keep_below d0 b2; have e1 := keep_below d1 b2; have e2 := keep_below d2 b2; have e3 := keep_below d3 b2; clear b2))
      clear x1 y0 y1 d0 d1 d2 d3
      go_loopw [6] (fun k wr => ∃ j : Nat, k = .int .i64 (j : Nat) ∧ j ≤ i ∧ (ac.take j).any (wrB at_ ai) = false ∧ Below w2.heap.size w2 wr) (fun k _ => i - (intOf k).toNat)
      case atStart => exact ⟨0, rfl, Nat.zero_le _, by simp, Below.refl _ _⟩
      case round =>
        rename World => wr
        obtain ⟨j, rfl, hj, ha, hbl⟩ := hrel
        have v1 := keep_below z1 hbl
        have f0 := keep_below e0 hbl
        have f2 := keep_below e2 hbl
        have f3 := keep_below e3 hbl
        by_cases hlt : j < i
        · obtain ⟨b, hx⟩ : ∃ b, ac[j]? = some b := ⟨_, List.getElem?_eq_getElem (by have := HI.out; rw [HB.out.h.al]; omega)⟩
          obtain ⟨g2, o2, hgo, c0, c1, c2, -⟩ := (HX2.out.gw hbl).act hx
          obtain ⟨rfl, rfl⟩ : g2 = g ∧ o2 = o := by simpa [eq_comm] using hgo
          have i2 : (j : Int) < (i : Int) := by omega
          have i3 : (j : Int) < (m : Int) := by have := HI.out; omega
          have l3 : (0 : Int) ≤ (j : Int) := by omega
          have l4 : (j : Int) ≤ 4096 := by omega
          have HTK := Lib.hid (any_take11 (p := wrB at_ ai) hx)
          have HA := Lib.hid ha
          have HLT := Lib.hid hlt
          have HBL := Lib.hid hbl
          have HWR := Lib.hid (show wrB at_ ai b = true → qA = true from fun k => by
            rw [← HQA.out]
            exact List.any_eq_true.2 ⟨b, List.mem_of_getElem? (i := j) (by rw [List.getElem?_take, if_pos hlt]; exact hx), k⟩)
          clear hgo hx ha hj hlt hbl
          obtain ⟨bt, bw, bi, bv⟩ := b
          dsimp only at *
          cases bw
          · have HT := Lib.hid (show (ac.take (j + 1)).any (wrB at_ ai) = false by rw [HTK.out, HA.out]; simp [wrB])
            go_upto_region 9 with fail
            go_quiet (fail)
            go_wp2
            go_roundw
            case rel => exact ⟨j + 1, by go_num, HLT.out, HT.out, below_next HBL.out ⟨rfl, rfl, rfl, Nat.le_refl _, fun _ _ => rfl⟩⟩
            case measure => have := HLT.out; simp [intOf]; omega
          · by_cases ht : bt = at_
            · subst ht
              by_cases hi : bi = ai
              · subst hi
                have HT := Lib.hid (HWR.out (by simp [wrB]))
                go_upto_region 9 with fail
                go_quiet (fail)
                go_wp2
                go_ret
                exact ⟨by rw [HT.out]; rfl, below_next (below_next (below_next BX.out B2.out) HBL.out) ⟨rfl, rfl, rfl, Nat.le_refl _, fun _ _ => rfl⟩⟩
              · have HT := Lib.hid (show (ac.take (j + 1)).any (wrB bt ai) = false by rw [HTK.out, HA.out]; simp [wrB, hi])
                have hi' : (bi.toList == ai.toList) = false := by rw [strEq11]; simpa using hi
                go_upto_region 9 with fail
                go_quiet (fail)
                go_wp2
                go_roundw
                case rel => exact ⟨j + 1, by go_num, HLT.out, HT.out, below_next HBL.out ⟨rfl, rfl, rfl, Nat.le_refl _, fun _ _ => rfl⟩⟩
                case measure => have := HLT.out; simp [intOf]; omega
            · have HT := Lib.hid (show (ac.take (j + 1)).any (wrB at_ ai) = false by rw [HTK.out, HA.out]; simp [wrB, ht])
              have ht' : (bt == at_) = false := by simpa using ht
              go_upto_region 9 with fail
              go_quiet (fail)
              go_wp2
              go_roundw
              case rel => exact ⟨j + 1, by go_num, HLT.out, HT.out, below_next HBL.out ⟨rfl, rfl, rfl, Nat.le_refl _, fun _ _ => rfl⟩⟩
              case measure => have := HLT.out; simp [intOf]; omega
        · obtain rfl : j = i := by omega
          have i2 : ¬ (j : Int) < (j : Int) := by omega
          have HT := Lib.hid (show qA = false by rw [← HQA.out]; exact ha)
          have HBL := Lib.hid hbl
          clear ha hj hlt hbl
          go_wp2
          go_ret
          exact ⟨by rw [HT.out, ← HQV.out]; rfl, below_next (below_next BX.out B2.out) HBL.out⟩
end
end Go.Proofs.YtnpeankmmojebaaGreatDoor
