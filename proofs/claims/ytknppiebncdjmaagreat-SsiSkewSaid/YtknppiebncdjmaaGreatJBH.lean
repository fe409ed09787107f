import Derived.Test.YtknppiebncdjmaaGreatJAJ
import Derived.Test.YtknppiebncdjmaaGreatJBG
import Derived.Laws.OwnMore
set_option linter.unusedVariables false
namespace Go.Proofs.YtknppiebncdjmaaGreat
set_option maxRecDepth 100000
open Go.RowKit

def depC (d : Int × Int) : List Value := [.int .i64 d.1, .int .i64 d.2]
theorem depC_len (d : Int × Int) : (depC d).length = 2 := rfl
def seE : SEl := ⟨65, 133, .agg #[.int .i64 0, .int .i64 0], 2, 16⟩
theorem seE_ok : seE.Ok := ⟨by kernel_rfl, by kernel_rfl, by kernel_rfl, by decide, by decide, by decide⟩
def seB : SEl := ⟨132, 4, .bool false, 1, 1⟩
theorem seB_ok : seB.Ok := ⟨by kernel_rfl, by kernel_rfl, by kernel_rfl, by decide, by decide, by decide⟩
def boolC (G : List Bool) : List Value := G.map .bool
theorem boolC_at {G : List Bool} {k : Nat} (hk : k < G.length) : (boolC G)[k]? = some (.bool (G.getD k false)) := by
  unfold boolC
  rw [List.getElem?_map, List.getD_eq_getElem?_getD, List.getElem?_eq_getElem hk]
  rfl
theorem boolC_set (G : List Bool) (k : Nat) : (boolC G).set k (.bool true) = boolC (G.set k true) := by unfold boolC; rw [List.map_set]
theorem SO.addr10 {E : SEl} {base n c : Nat} {w : World} {A : Option Addr} {xs : List Value} (h : SO E base w (.slice A n c) n xs) (hn : 0 < n) : ∃ g, A = some ⟨g, 0, none⟩ ∧ base ≤ g := by
  rcases h.own.2 with ⟨hv, -⟩ | ⟨g, cap, cur, hv, hb, -⟩
  · simp only [Value.slice.injEq] at hv; omega
  · simp only [Value.slice.injEq] at hv; exact ⟨g, hv.1, hb⟩
theorem SO.set10 {E : SEl} {base n c g : Nat} {w : World} {xs : List Value} (h : SO E base w (.slice (some ⟨g, 0, none⟩) n c) n xs) (j : Nat) {u : Value} (hu : u.oneCell' = true) : SO E base (w.setCell ⟨g, j, none⟩ u) (.slice (some ⟨g, 0, none⟩) n c) n (xs.set j u) :=
  ⟨(h.own.stored j u).1, by rw [List.length_set]; exact h.len, fun x hx => by
    rcases List.mem_or_eq_of_mem_set hx with hx | rfl
    · exact h.one x hx
    · exact hu⟩
theorem boolC_one (G : List Bool) : ∀ u ∈ boolC G, u.oneCell' = true := by
  intro u hu
  obtain ⟨b, -, rfl⟩ := List.mem_map.1 hu
  rfl
def blockD (G : List Bool) (i : Nat) (d : Int × Int) : Bool := decide (d.2 = (i : Int)) && decide (d.1 ≠ (i : Int)) && !(G.getD d.1.toNat false)
theorem free_is (deps : List (Int × Int)) (G : List Bool) (i : Nat) : freeP deps G i = (!(G.getD i false) && deps.all fun d => !blockD G i d) := rfl
theorem folds_len (deps : List (Int × Int)) (l : List Nat) (G : List Bool) : (l.foldl (oneP deps) G).length = G.length := (fold_le deps l G).1.symm
theorem range_snoc (deps : List (Int × Int)) (G : List Bool) (k : Nat) : (List.range (k + 1)).foldl (oneP deps) G = oneP deps ((List.range k).foldl (oneP deps) G) k := by
  rw [List.range_succ, List.foldl_append]; rfl
theorem rounds_snoc (deps : List (Int × Int)) : ∀ (m : Nat) (G : List Bool), roundsP deps (m + 1) G = roundP deps (roundsP deps m G)
  | 0, _ => rfl
  | m + 1, G => by
    have := rounds_snoc deps m (roundP deps G)
    simpa [roundsP] using this
theorem rounds_fix {deps : List (Int × Int)} {G : List Bool} (h : roundP deps G = G) : ∀ m, roundsP deps m G = G
  | 0 => rfl
  | m + 1 => by unfold roundsP; rw [h]; exact rounds_fix h m
theorem rounds_add (deps : List (Int × Int)) : ∀ (m k : Nat) (G : List Bool), roundsP deps (m + k) G = roundsP deps k (roundsP deps m G)
  | 0, k, G => by rw [Nat.zero_add]; rfl
  | m + 1, k, G => by
    rw [show m + 1 + k = (m + k) + 1 by omega]
    simp only [roundsP]
    exact rounds_add deps m k _
theorem rounds_len (deps : List (Int × Int)) : ∀ (m : Nat) (G : List Bool), (roundsP deps m G).length = G.length
  | 0, _ => rfl
  | m + 1, G => by unfold roundsP; rw [rounds_len deps m, ← (round_le deps G).1]
set_option maxHeartbeats 16000000 in
theorem wOrdered {w : World} {n : Nat} {A : Option Addr} {c : Nat} {deps : List (Int × Int)} (h : SB w A (2 * deps.length) (cellsF depC deps)) (hn : n ≤ 1048576) (hd : deps.length ≤ 4611686018427387904) (hr : ∀ d ∈ deps, ∃ a b : Nat, d = ((a : Int), (b : Int)) ∧ a < n ∧ b < n) :
    Calls Tryz.prog 23 #[.int .i64 (n : Int), .slice A deps.length c] w fun e w' => e = .returned (.bool (orderedP n deps)) ∧ Below w.heap.size w w' := by
  obtain ⟨i0, hi, hz0, hz1, hz2⟩ := info_parts seB_ok.info
  obtain ⟨W, hmk, r1, r2⟩ := run_make_full (P := Tryz.prog) w w.heap.size 132 4 i0 (.bool false) 1 seB_ok.und hi hz0 hz1 .i64 .i64 n (by rw [hz2]; show 1 * n ≤ _; omega) (by simp only [maxLen]; omega) (Nat.le_refl _)
  have hsW : SO seB w.heap.size W (.slice (some ⟨w.heap.size, 0, none⟩) n n) n (boolC (List.replicate n false)) := by
    refine ⟨?_, by simp [boolC, seB], boolC_one _⟩
    have : (madeCells (Value.bool false).cells (n * 1)).toList = boolC (List.replicate n false) := by
      rw [Nat.mul_one]
      refine (toList_madeCells_one _ _).trans ?_
      simp [boolC]
    rw [← this]
    exact r1
  have hbW : Below w.heap.size w W := (Below.refl w.heap.size w).grown r2 (Nat.le_refl _) (by simp)
  obtain ⟨g, hg⟩ : ∃ g, w.heap.size = g := ⟨_, rfl⟩
  have HS := Lib.hid h
  have HN := Lib.hid hn
  have HD := Lib.hid hd
  have HR := Lib.hid hr
  have SW := Lib.hid hsW
  have BW := Lib.hid hbW
  have HG := Lib.hid hg
  clear h hn hd hr r1 r2 hi hz0 hz1 hz2 hsW hbW hg
  go_enter Tryz.func23, Tryz.ntmps23
  go_upto_region 3 with fail
  clear hmk
  rw [HG.out] at SW ⊢
  go_loopw [15] (fun i wr => ∃ m : Nat, i = .int .i64 (m : Nat) ∧ m ≤ n ∧ SO seB g wr (.slice (some ⟨g, 0, none⟩) n n) n (boolC (roundsP deps m (List.replicate n false))) ∧ Below w.heap.size w wr) (fun i _ => n - (intOf i).toNat)
  case atStart => exact ⟨0, rfl, Nat.zero_le _, SW.out, BW.out⟩
  case round =>
    rename World => wr
    clear SW BW
    obtain ⟨m, rfl, hm, ho, hb⟩ := hrel
    obtain ⟨G, hG⟩ : ∃ G, roundsP deps m (List.replicate n false) = G := ⟨_, rfl⟩
    have HGL := Lib.hid (show G.length = n by rw [← hG, rounds_len]; simp)
    rw [hG] at ho
    have HGG := Lib.hid hG
    by_cases hlt : m < n
    · have i1 : (m : Int) < (n : Int) := by omega
      have l1 : (m : Int) ≤ 1048576 := by have := HN.out; omega
      have HLT := Lib.hid hlt
      have HO := Lib.hid ho
      have HB := Lib.hid hb
      clear hm hlt ho hb hG
      go_upto_region 6 with fail
      go_loopw [6, 18] (fun mv i wz => ∃ (k : Nat) (mb : Bool), i = .int .i64 (k : Nat) ∧ mv = .bool mb ∧ k ≤ n ∧ (mb = false → (List.range k).foldl (oneP deps) G = G) ∧ SO seB g wz (.slice (some ⟨g, 0, none⟩) n n) n (boolC ((List.range k).foldl (oneP deps) G)) ∧ Below w.heap.size w wz) (fun _ i _ => n - (intOf i).toNat)
      case atStart => exact ⟨0, false, rfl, rfl, Nat.zero_le _, fun _ => rfl, HO.out, HB.out⟩
      case round =>
        rename World => wz
        clear HO HB
        obtain ⟨k, mb, rfl, rfl, hk, hmb, ho, hb⟩ := hrel
        obtain ⟨G1, hG1⟩ : ∃ G1, (List.range k).foldl (oneP deps) G = G1 := ⟨_, rfl⟩
        have HG1L := Lib.hid (show G1.length = n by rw [← hG1, folds_len]; exact HGL.out)
        have HST := Lib.hid (range_snoc deps G k)
        rw [hG1] at ho hmb HST
        by_cases hkl : k < n
        · have i2 : (k : Int) < (n : Int) := by omega
          have i2' : (0 : Int) ≤ (k : Int) := by omega
          have l2 : (k : Int) ≤ 1048576 := by have := HN.out; omega
          have HKL := Lib.hid hkl
          have d0 : wz.cell? ⟨g, k, none⟩ = some (.bool (G1.getD k false)) := (ho.own.cellAt k (by show k < n * 1; omega)).trans (boolC_at (by have := HG1L.out; omega))
          have HO := Lib.hid ho
          have HB := Lib.hid hb
          have HMB := Lib.hid hmb
          obtain ⟨gk, hgk⟩ : ∃ b, G1.getD k false = b := ⟨_, rfl⟩
          rw [hgk] at d0
          have HGK := Lib.hid hgk
          clear hk hkl ho hb hmb hG1 hgk
          go_upto_region 10 with fail
          clear d0
          go_loopw [8, 28] (fun fv i wy => ∃ q : Nat, i = .int .i64 (q : Nat) ∧ fv = .bool (!gk && (deps.take q).all fun d => !blockD G1 k d) ∧ q ≤ deps.length ∧ Below wz.heap.size wz wy) (fun _ i _ => deps.length - (intOf i).toNat)
          case atStart => exact ⟨0, rfl, by simp, Nat.zero_le _, Below.refl _ _⟩
          case round =>
            rename World => wy
            obtain ⟨q, rfl, rfl, hq, hby⟩ := hrel
            obtain ⟨fr, hfr⟩ : ∃ b, (!gk && (deps.take q).all fun d => !blockD G1 k d) = b := ⟨_, rfl⟩
            rw [hfr]
            by_cases hql : q < deps.length
            · obtain ⟨d, hd⟩ : ∃ d, deps[q]? = some d := ⟨_, List.getElem?_eq_getElem hql⟩
              have HF := Lib.hid (show (!gk && (deps.take (q + 1)).all fun d => !blockD G1 k d) = (fr && !blockD G1 k d) by
                rw [List.take_add_one, hd, Option.toList_some, List.all_append, ← Bool.and_assoc, hfr]
                simp)
              obtain ⟨a, b, rfl, ha, hbn⟩ := HR.out d (List.mem_of_getElem? hd)
              obtain ⟨gd, o, rfl, hc⟩ := (HS.out.gw (below_next HB.out hby)).el depC_len (by omega) hd
              have c0 : wy.cell? ⟨gd, o + q * 2, none⟩ = some (.int .i64 (a : Int)) := hc 0 _ rfl
              have c1 : wy.cell? ⟨gd, o + q * 2 + 1, none⟩ = some (.int .i64 (b : Int)) := hc 1 _ rfl
              obtain ⟨Y, hY⟩ : ∃ Y, wy.alloc (.cells #[.int .i64 (a : Int), .int .i64 (b : Int)] 133) = Y := ⟨_, rfl⟩
              have HY := Lib.hid hY
              have gY : Below wy.heap.size wy Y := by rw [← hY]; exact alloc_below10 _ _
              have rY : Y.heap[wy.heap.size]? = some (.cells #[.int .i64 (a : Int), .int .i64 (b : Int)] 133 (0, 0)) := by rw [← hY]; exact heap_alloc_new _ _
              have y0 : Y.cell? ⟨wy.heap.size, 0, none⟩ = some (.int .i64 (a : Int)) := cell_of_row _ _ 0 _ _ _ rY
              have y1 : Y.cell? ⟨wy.heap.size, 1, none⟩ = some (.int .i64 (b : Int)) := cell_of_row _ _ 1 _ _ _ rY
              have hoY := HO.out.below (below_next hby gY)
              have ga : Y.cell? ⟨g, a, none⟩ = some (.bool (G1.getD a false)) := (hoY.own.cellAt a (by show a < n * 1; omega)).trans (boolC_at (by have := HG1L.out; omega))
              obtain ⟨va, hva⟩ : ∃ b, G1.getD a false = b := ⟨_, rfl⟩
              rw [hva] at ga
              have HVA := Lib.hid hva
              have i3 : (q : Int) < (deps.length : Int) := by omega
              have l3 : (q : Int) ≤ 4611686018427387904 := by have := HD.out; omega
              have ia : (a : Int) < (n : Int) := by omega
              have ia' : (0 : Int) ≤ (a : Int) := by omega
              have HQL := Lib.hid hql
              have HBY := Lib.hid (below_next hby gY)
              clear hq hql hd hc gY rY hY hby hoY hva hfr ha hbn
              go_upto_region 12 with fail
              rw [HY.out]
              clear c0 c1
              cases fr
              · have HT4 := Lib.hid (show (!gk && (deps.take (q + 1)).all fun d => !blockD G1 k d) = false by rw [HF.out]; rfl)
                go_wp2
                go_roundw
                case rel => exact ⟨q + 1, by go_num, by rw [HT4.out], HQL.out, HBY.out⟩
                case measure => have := HQL.out; simp [intOf]; omega
              · by_cases e1 : b = k
                · subst e1
                  by_cases e2 : a = b
                  · subst e2
                    have HT4 := Lib.hid (show (!gk && (deps.take (q + 1)).all fun d => !blockD G1 a d) = true by rw [HF.out]; simp [blockD])
                    go_wp2
                    go_roundw
                    case rel => exact ⟨q + 1, by go_num, by rw [HT4.out], HQL.out, HBY.out⟩
                    case measure => have := HQL.out; simp [intOf]; omega
                  · have e2' : ¬ (a : Int) = (b : Int) := by omega
                    have e3 : ((a : Int) != (b : Int)) = true := by simpa using e2'
                    have HT4 := Lib.hid (show (!gk && (deps.take (q + 1)).all fun d => !blockD G1 b d) = va by
                      rw [HF.out]
                      have := HVA.out
                      simp only [List.getD_eq_getElem?_getD] at this
                      simp [blockD, e2', this])
                    clear e2
                    cases va
                    all_goals
                      go_wp2
                      go_roundw
                      case rel => exact ⟨q + 1, by go_num, by rw [HT4.out], HQL.out, HBY.out⟩
                      case measure => have := HQL.out; simp [intOf]; omega
                · have e1' : ¬ (b : Int) = (k : Int) := by omega
                  have e3 : ((b : Int) == (k : Int)) = false := by simpa using e1'
                  have HT4 := Lib.hid (show (!gk && (deps.take (q + 1)).all fun d => !blockD G1 k d) = true by rw [HF.out]; simp [blockD, e1'])
                  clear e1
                  go_wp2
                  go_roundw
                  case rel => exact ⟨q + 1, by go_num, by rw [HT4.out], HQL.out, HBY.out⟩
                  case measure => have := HQL.out; simp [intOf]; omega
            · obtain rfl : q = deps.length := by omega
              have i3 : ¬ (deps.length : Int) < (deps.length : Int) := by omega
              rw [List.take_length] at hfr
              have HFR := Lib.hid (show freeP deps G1 k = fr by rw [free_is, HGK.out]; exact hfr)
              have HO2 := Lib.hid (HO.out.below hby)
              have HB2 := Lib.hid (below_next HB.out hby)
              have f0 : wy.frozen? ⟨g, k, none⟩ = false := (HO.out.below hby).own.frozenAt _
              have d0 : wy.cell? ⟨g, k, none⟩ = some (.bool (G1.getD k false)) := ((HO.out.below hby).own.cellAt k (by have := HKL.out; show k < n * 1; omega)).trans (boolC_at (by have := HG1L.out; have := HKL.out; omega))
              clear hq hql hby hfr
              cases fr
              · have HT4 := Lib.hid (show (List.range (k + 1)).foldl (oneP deps) G = G1 by rw [HST.out]; unfold oneP; rw [HFR.out]; rfl)
                go_wp2
                go_roundw
                case rel => exact ⟨k + 1, mb, by go_num, rfl, HKL.out, fun e => by rw [HT4.out]; exact HMB.out e, by rw [HT4.out]; exact HO2.out, HB2.out⟩
                case measure => have := HKL.out; simp [intOf]; omega
              · have HT4 := Lib.hid (show (List.range (k + 1)).foldl (oneP deps) G = G1.set k true by rw [HST.out]; unfold oneP; rw [HFR.out]; rfl)
                go_wp2
                go_roundw
                case rel => exact ⟨k + 1, true, by go_num, rfl, HKL.out, fun e => (by cases e), by rw [HT4.out, ← boolC_set]; exact HO2.out.set10 k rfl, HB2.out.setCell (p := ⟨g, k, none⟩) (by have := HG.out; show w.heap.size ≤ g; omega) _⟩
                case measure => have := HKL.out; simp [intOf]; omega
        · obtain rfl : k = n := by omega
          have i2 : ¬ (k : Int) < (k : Int) := by omega
          have HR1 := Lib.hid (show roundsP deps (m + 1) (List.replicate k false) = G1 by rw [rounds_snoc, HGG.out]; unfold roundP; rw [HGL.out]; exact hG1)
          have HO2 := Lib.hid ho
          have HB2 := Lib.hid hb
          have HFX := Lib.hid (fun (e : mb = false) => (show orderedP k deps = G1.all id by
            have h1 := hmb e
            unfold orderedP
            have h2 : k = m + (k - m) := by have := HLT.out; omega
            have h3 : roundP deps G = G := by unfold roundP; rw [HGL.out, hG1]; exact h1
            rw [show roundsP deps k (List.replicate k false) = G1 by
              conv => lhs; rw [h2]
              rw [rounds_add]
              rw [← h2, HGG.out, rounds_fix h3, h1]]))
          clear hk hkl ho hb hmb hG1
          cases mb
          · have HFX2 := Lib.hid (HFX.out rfl)
            go_upto_region 21 with fail
            go_loopw [64] (fun i wt => ∃ q : Nat, i = .int .i64 (q : Nat) ∧ q ≤ k ∧ (∀ x ∈ G1.take q, x = true) ∧ Below wz.heap.size wz wt) (fun i _ => k - (intOf i).toNat)
            case atStart => exact ⟨0, rfl, Nat.zero_le _, by simp, Below.refl _ _⟩
            case round =>
              rename World => wt
              obtain ⟨q, rfl, hq, hall, hbt⟩ := hrel
              by_cases hql : q < k
              · have i4 : (q : Int) < (k : Int) := by omega
                have i4' : (0 : Int) ≤ (q : Int) := by omega
                have l4 : (q : Int) ≤ 1048576 := by have := HN.out; omega
                have hge : G1[q]? = some (G1.getD q false) := by rw [List.getD_eq_getElem?_getD, List.getElem?_eq_getElem (by have := HG1L.out; omega)]; rfl
                have d0 : wt.cell? ⟨g, q, none⟩ = some (.bool (G1.getD q false)) := ((HO2.out.below hbt).own.cellAt q (by show q < k * 1; omega)).trans (boolC_at (by have := HG1L.out; omega))
                obtain ⟨b, hbb⟩ : ∃ b, G1.getD q false = b := ⟨_, rfl⟩
                rw [hbb] at d0 hge
                have HQL := Lib.hid hql
                have HBT := Lib.hid hbt
                have HALL := Lib.hid (fun (e : b = true) => (show ∀ x ∈ G1.take (q + 1), x = true by
                  intro x hx
                  rw [List.take_add_one, hge, Option.toList_some] at hx
                  rcases List.mem_append.1 hx with hx | hx
                  · exact hall x hx
                  · rw [List.mem_singleton.1 hx]; exact e))
                have HNO := Lib.hid (fun (e : b = false) => (show orderedP k deps = false by
                  rw [HFX2.out, List.all_eq_false]
                  exact ⟨b, List.mem_of_getElem? hge, by rw [e]; simp⟩))
                clear hq hql hall hbt hbb hge
                cases b
                · have HX := Lib.hid (HNO.out rfl)
                  go_wp2
                  go_ret
                  exact ⟨by rw [HX.out]; rfl, below_next HB2.out HBT.out⟩
                · have HX := Lib.hid (HALL.out rfl)
                  go_wp2
                  go_roundw
                  case rel => exact ⟨q + 1, by go_num, HQL.out, HX.out, HBT.out⟩
                  case measure => have := HQL.out; simp [intOf]; omega
              · obtain hqn : q = k := by omega
                have i4 : ¬ (q : Int) < (k : Int) := by omega
                have HX := Lib.hid (show orderedP k deps = true by
                  rw [HFX2.out, List.all_eq_true]
                  intro x hx
                  rw [List.take_of_length_le (by have := HG1L.out; omega)] at hall
                  simpa using hall x hx)
                have HBT := Lib.hid hbt
                clear hq hql hall hbt
                go_wp2
                go_ret
                exact ⟨by rw [HX.out]; rfl, below_next HB2.out HBT.out⟩
          · go_wp2
            go_roundw
            case rel => exact ⟨m + 1, by go_num, HLT.out, by rw [HR1.out]; exact HO2.out, HB2.out⟩
            case measure => have := HLT.out; simp [intOf]; omega
    · obtain rfl : m = n := by omega
      have i1 : ¬ (m : Int) < (m : Int) := by omega
      have HO2 := Lib.hid ho
      have HB2 := Lib.hid hb
      have HFX2 := Lib.hid (show orderedP m deps = G.all id by unfold orderedP; rw [HGG.out])
      clear hm hlt ho hb hG
      go_upto_region 21 with fail
      go_loopw [64] (fun i wt => ∃ q : Nat, i = .int .i64 (q : Nat) ∧ q ≤ m ∧ (∀ x ∈ G.take q, x = true) ∧ Below wr.heap.size wr wt) (fun i _ => m - (intOf i).toNat)
      case atStart => exact ⟨0, rfl, Nat.zero_le _, by simp, Below.refl _ _⟩
      case round =>
        rename World => wt
        obtain ⟨q, rfl, hq, hall, hbt⟩ := hrel
        by_cases hql : q < m
        · have i4 : (q : Int) < (m : Int) := by omega
          have i4' : (0 : Int) ≤ (q : Int) := by omega
          have l4 : (q : Int) ≤ 1048576 := by have := HN.out; omega
          have hge : G[q]? = some (G.getD q false) := by rw [List.getD_eq_getElem?_getD, List.getElem?_eq_getElem (by have := HGL.out; omega)]; rfl
          have d0 : wt.cell? ⟨g, q, none⟩ = some (.bool (G.getD q false)) := ((HO2.out.below hbt).own.cellAt q (by show q < m * 1; omega)).trans (boolC_at (by have := HGL.out; omega))
          obtain ⟨b, hbb⟩ : ∃ b, G.getD q false = b := ⟨_, rfl⟩
          rw [hbb] at d0 hge
          have HQL := Lib.hid hql
          have HBT := Lib.hid hbt
          have HALL := Lib.hid (fun (e : b = true) => (show ∀ x ∈ G.take (q + 1), x = true by
            intro x hx
            rw [List.take_add_one, hge, Option.toList_some] at hx
            rcases List.mem_append.1 hx with hx | hx
            · exact hall x hx
            · rw [List.mem_singleton.1 hx]; exact e))
          have HNO := Lib.hid (fun (e : b = false) => (show orderedP m deps = false by
            rw [HFX2.out, List.all_eq_false]
            exact ⟨b, List.mem_of_getElem? hge, by rw [e]; simp⟩))
          clear hq hql hall hbt hbb hge
          cases b
          · have HX := Lib.hid (HNO.out rfl)
            go_wp2
            go_ret
            exact ⟨by rw [HX.out]; rfl, below_next HB2.out HBT.out⟩
          · have HX := Lib.hid (HALL.out rfl)
            go_wp2
            go_roundw
            case rel => exact ⟨q + 1, by go_num, HQL.out, HX.out, HBT.out⟩
            case measure => have := HQL.out; simp [intOf]; omega
        · obtain hqn : q = m := by omega
          have i4 : ¬ (q : Int) < (m : Int) := by omega
          have HX := Lib.hid (show orderedP m deps = true by
            rw [HFX2.out, List.all_eq_true]
            intro x hx
            rw [List.take_of_length_le (by have := HGL.out; omega)] at hall
            simpa using hall x hx)
          have HBT := Lib.hid hbt
          clear hq hql hall hbt
          go_wp2
          go_ret
          exact ⟨by rw [HX.out]; rfl, below_next HB2.out HBT.out⟩
end Go.Proofs.YtknppiebncdjmaaGreat

namespace Go.Proofs.YtknppiebncdjmaaGreat
set_option maxRecDepth 100000
open Go.RowKit

theorem newGo_snoc : ∀ (vs : List Ver10) (i : Nat) (l : Lk) (up b : Int) (v : Ver10), newGo (vs ++ [v]) i l up b = if okV l up v = true then ((i + vs.length : Nat) : Int) else newGo vs i l up b
  | [], i, l, up, b, v => by simp [newGo]
  | x :: vs, i, l, up, b, v => by
    simp only [List.cons_append, newGo]
    rw [newGo_snoc vs (i + 1)]
    simp only [List.length_cons]
    congr 2
    omega
theorem newest_take {vs : List Ver10} {l : Lk} {up : Int} {j : Nat} {v : Ver10} (hv : vs[j]? = some v) : newestP (vs.take (j + 1)) l up = if okV l up v = true then (j : Int) else newestP (vs.take j) l up := by
  unfold newestP
  have hj := (List.getElem?_eq_some_iff.1 hv).1
  rw [List.take_add_one, hv, Option.toList_some, newGo_snoc, List.length_take, Nat.min_eq_left (by omega), Nat.zero_add]
theorem newest_ge (vs : List Ver10) (l : Lk) (up : Int) : -1 ≤ newestP vs l up ∧ newestP vs l up < vs.length := by
  rcases newest_is vs l up with ⟨e, -⟩ | ⟨k, v, e, hv, -⟩
  · rw [e]; omega
  · have := (List.getElem?_eq_some_iff.1 hv).1
    rw [e]; omega
set_option maxHeartbeats 8000000 in
theorem wNewest {w : World} {p : Nat} {A : Option Addr} {c : Nat} {vs : List Ver10} (hc : w.cell? ⟨p, 2, none⟩ = some (.slice A vs.length c)) (h : SB w A (5 * vs.length) (cellsF verC vs)) (hn : vs.length ≤ 1599289640354) (l : Lk) (up : Int) :
    Calls Tryz.prog 68 #[.pointer (some ⟨p, 0, none⟩), .agg #[.string l.1, .string l.2], .int .i64 up] w fun e w' => e = .returned (.int .i64 (newestP vs l up)) ∧ Below w.heap.size w w' := by
  obtain ⟨W, hW⟩ : ∃ W, w.alloc (.cells #[.string l.1, .string l.2] 42) = W := ⟨_, rfl⟩
  have HW := Lib.hid hW
  have hB : Below w.heap.size w W := by rw [← hW]; exact alloc_below10 _ _
  have q0 : W.heap[w.heap.size]? = some (.cells #[.string l.1, .string l.2] 42 (0, 0)) := by rw [← hW]; exact heap_alloc_new _ _
  have x0 : W.cell? ⟨w.heap.size, 0, none⟩ = some (.string l.1) := cell_of_row _ _ 0 _ _ _ q0
  have x1 : W.cell? ⟨w.heap.size, 1, none⟩ = some (.string l.2) := cell_of_row _ _ 1 _ _ _ q0
  have hc' := keep_below hc hB
  have HS := Lib.hid (h.gw hB)
  have HN := Lib.hid hn
  have HB := Lib.hid hB
  have qE := fun W a b c d => eqLk W a b c d
  clear h hn hW hB q0 hc
  go_enter Tryz.func68, Tryz.ntmps68
  go_upto_region 1 with fail
  rw [HW.out]
  go_upto_region 3 with fail
  clear hc'
  go_loopw [7, 15] (fun nv i wr => ∃ j : Nat, i = .int .i64 (j : Nat) ∧ nv = .int .i64 (newestP (vs.take j) l up) ∧ j ≤ vs.length ∧ Below W.heap.size W wr) (fun _ i _ => vs.length - (intOf i).toNat)
  case atStart => exact ⟨0, rfl, rfl, Nat.zero_le _, Below.refl _ _⟩
  case round =>
    rename World => wr
    obtain ⟨j, rfl, rfl, hj, hb⟩ := hrel
    replace x0 := keep_below x0 hb
    replace x1 := keep_below x1 hb
    obtain ⟨n, hnn⟩ : ∃ n, newestP (vs.take j) l up = n := ⟨_, rfl⟩
    rw [hnn]
    by_cases hlt : j < vs.length
    · obtain ⟨v, hv⟩ : ∃ v, vs[j]? = some v := ⟨_, List.getElem?_eq_getElem hlt⟩
      have HT := newest_take (l := l) (up := up) hv
      rw [hnn] at HT
      obtain ⟨g, o, rfl, hc⟩ := (HS.out.gw hb).el verC_len (by omega) hv
      have c0 : wr.cell? ⟨g, o + j * 5, none⟩ = some (.string v.at_.1) := hc 0 _ rfl
      have c1 : wr.cell? ⟨g, o + j * 5 + 1, none⟩ = some (.string v.at_.2) := hc 1 _ rfl
      have c2 : wr.cell? ⟨g, o + j * 5 + 2, none⟩ = some (.int .i64 v.num) := hc 2 _ rfl
      have c3 : wr.cell? ⟨g, o + j * 5 + 3, none⟩ = some (.int .i64 v.by_) := hc 3 _ rfl
      have c4 : wr.cell? ⟨g, o + j * 5 + 4, none⟩ = some (.int .i64 v.next) := hc 4 _ rfl
      obtain ⟨⟨vt, vk⟩, vn, vb, vx⟩ := v
      dsimp only at c0 c1 c2 c3 c4
      obtain ⟨Y, hY⟩ : ∃ Y, wr.alloc (.cells #[.string vt, .string vk, .int .i64 vn, .int .i64 vb, .int .i64 vx] 130) = Y := ⟨_, rfl⟩
      have HY := Lib.hid hY
      have gY : Below wr.heap.size wr Y := by rw [← hY]; exact alloc_below10 _ _
      have rY : Y.heap[wr.heap.size]? = some (.cells #[.string vt, .string vk, .int .i64 vn, .int .i64 vb, .int .i64 vx] 130 (0, 0)) := by rw [← hY]; exact heap_alloc_new _ _
      have y0 : Y.cell? ⟨wr.heap.size, 0, none⟩ = some (.string vt) := cell_of_row _ _ 0 _ _ _ rY
      have y1 : Y.cell? ⟨wr.heap.size, 1, none⟩ = some (.string vk) := cell_of_row _ _ 1 _ _ _ rY
      have y2 : Y.cell? ⟨wr.heap.size, 2, none⟩ = some (.int .i64 vn) := cell_of_row _ _ 2 _ _ _ rY
      have z0 := keep_below x0 gY
      have z1 := keep_below x1 gY
      have i1 : (j : Int) < (vs.length : Int) := by omega
      have l1 : (j : Int) ≤ 1599289640354 := by have := HN.out; omega
      have HLT := Lib.hid hlt
      have HBY := Lib.hid (below_next hb gY)
      have HT' := Lib.hid HT
      clear hj hlt hv hc gY rY hY hb HT hnn
      go_upto_region 5 with fail
      rw [HY.out]
      clear c0 c1 c2 c3 c4
      cases he : lkEq (vt, vk) (l.1, l.2)
      · have HT2 := Lib.hid (show newestP (vs.take (j + 1)) l up = n by rw [HT'.out]; unfold okV; rw [show lkEq (vt, vk) l = false from he]; rfl)
        go_wp2
        go_roundw
        case rel => exact ⟨j + 1, by go_num, by rw [HT2.out], HLT.out, HBY.out⟩
        case measure => have := HLT.out; simp [intOf]; omega
      · by_cases hle : vn ≤ up
        · have HT2 := Lib.hid (show newestP (vs.take (j + 1)) l up = (j : Int) by rw [HT'.out]; unfold okV; rw [show lkEq (vt, vk) l = true from he]; simp [hle])
          go_wp2
          go_roundw
          case rel => exact ⟨j + 1, by go_num, by rw [HT2.out], HLT.out, HBY.out⟩
          case measure => have := HLT.out; simp [intOf]; omega
        · have HT2 := Lib.hid (show newestP (vs.take (j + 1)) l up = n by rw [HT'.out]; unfold okV; rw [show lkEq (vt, vk) l = true from he]; simp [hle])
          go_wp2
          go_roundw
          case rel => exact ⟨j + 1, by go_num, by rw [HT2.out], HLT.out, HBY.out⟩
          case measure => have := HLT.out; simp [intOf]; omega
    · obtain rfl : j = vs.length := by omega
      have i1 : ¬ (vs.length : Int) < (vs.length : Int) := by omega
      rw [List.take_length] at hnn
      have HB2 := Lib.hid (below_next HB.out hb)
      have HNO := Lib.hid hnn
      clear hj hlt hb hnn
      go_wp2
      go_ret
      exact ⟨by rw [HNO.out]; rfl, HB2.out⟩
theorem first_at {vs : List Ver10} {l : Lk} {j : Nat} {v : Ver10} (hv : vs[j]? = some v) (hno : ∀ u ∈ vs.take j, lkEq u.at_ l = false) (he : lkEq v.at_ l = true) : firstP vs l = (j : Int) := by
  unfold firstP
  have hj := (List.getElem?_eq_some_iff.1 hv)
  obtain ⟨hj, e⟩ := hj
  have : vs.findIdx? (fun v => lkEq v.at_ l) = some j := by
    rw [List.findIdx?_eq_some_iff_getElem]
    refine ⟨hj, by rw [e]; exact he, fun k hk => ?_⟩
    have := hno vs[k] (List.mem_iff_getElem?.2 ⟨k, by rw [List.getElem?_take, if_pos hk]; exact List.getElem?_eq_getElem (by omega)⟩)
    simp [this]
  rw [this]; rfl
theorem first_no {vs : List Ver10} {l : Lk} (hno : ∀ u ∈ vs, lkEq u.at_ l = false) : firstP vs l = -1 := by
  unfold firstP
  have : vs.findIdx? (fun v => lkEq v.at_ l) = none := by
    rw [List.findIdx?_eq_none_iff]
    intro v hv
    simpa using hno v hv
  rw [this]; rfl
set_option maxHeartbeats 8000000 in
theorem wFirst10 {w : World} {p : Nat} {A : Option Addr} {c : Nat} {vs : List Ver10} (hc : w.cell? ⟨p, 2, none⟩ = some (.slice A vs.length c)) (h : SB w A (5 * vs.length) (cellsF verC vs)) (hn : vs.length ≤ 1599289640354) (l : Lk) :
    Calls Tryz.prog 70 #[.pointer (some ⟨p, 0, none⟩), .agg #[.string l.1, .string l.2]] w fun e w' => e = .returned (.int .i64 (firstP vs l)) ∧ Below w.heap.size w w' := by
  obtain ⟨W, hW⟩ : ∃ W, w.alloc (.cells #[.string l.1, .string l.2] 42) = W := ⟨_, rfl⟩
  have HW := Lib.hid hW
  have hB : Below w.heap.size w W := by rw [← hW]; exact alloc_below10 _ _
  have q0 : W.heap[w.heap.size]? = some (.cells #[.string l.1, .string l.2] 42 (0, 0)) := by rw [← hW]; exact heap_alloc_new _ _
  have x0 : W.cell? ⟨w.heap.size, 0, none⟩ = some (.string l.1) := cell_of_row _ _ 0 _ _ _ q0
  have x1 : W.cell? ⟨w.heap.size, 1, none⟩ = some (.string l.2) := cell_of_row _ _ 1 _ _ _ q0
  have hc' := keep_below hc hB
  have HS := Lib.hid (h.gw hB)
  have HN := Lib.hid hn
  have HB := Lib.hid hB
  have qE := fun W a b c d => eqLk W a b c d
  clear h hn hW hB q0 hc
  go_enter Tryz.func70, Tryz.ntmps70
  go_upto_region 1 with fail
  rw [HW.out]
  go_upto_region 2 with fail
  clear hc'
  go_loopw [12] (fun i wr => ∃ j : Nat, i = .int .i64 (j : Nat) ∧ (∀ u ∈ vs.take j, lkEq u.at_ l = false) ∧ j ≤ vs.length ∧ Below W.heap.size W wr) (fun i _ => vs.length - (intOf i).toNat)
  case atStart => exact ⟨0, rfl, by simp, Nat.zero_le _, Below.refl _ _⟩
  case round =>
    rename World => wr
    obtain ⟨j, rfl, hno, hj, hb⟩ := hrel
    replace x0 := keep_below x0 hb
    replace x1 := keep_below x1 hb
    by_cases hlt : j < vs.length
    · obtain ⟨v, hv⟩ : ∃ v, vs[j]? = some v := ⟨_, List.getElem?_eq_getElem hlt⟩
      have HYes := Lib.hid (fun he => first_at (l := l) hv hno he)
      have HNo := Lib.hid (fun (he : lkEq v.at_ l = false) => (show ∀ u ∈ vs.take (j + 1), lkEq u.at_ l = false by
        intro u hu
        rw [List.take_add_one, hv, Option.toList_some] at hu
        rcases List.mem_append.1 hu with hu | hu
        · exact hno u hu
        · rw [List.mem_singleton.1 hu]; exact he))
      obtain ⟨g, o, rfl, hc⟩ := (HS.out.gw hb).el verC_len (by omega) hv
      have c0 : wr.cell? ⟨g, o + j * 5, none⟩ = some (.string v.at_.1) := hc 0 _ rfl
      have c1 : wr.cell? ⟨g, o + j * 5 + 1, none⟩ = some (.string v.at_.2) := hc 1 _ rfl
      have c2 : wr.cell? ⟨g, o + j * 5 + 2, none⟩ = some (.int .i64 v.num) := hc 2 _ rfl
      have c3 : wr.cell? ⟨g, o + j * 5 + 3, none⟩ = some (.int .i64 v.by_) := hc 3 _ rfl
      have c4 : wr.cell? ⟨g, o + j * 5 + 4, none⟩ = some (.int .i64 v.next) := hc 4 _ rfl
      obtain ⟨⟨vt, vk⟩, vn, vb, vx⟩ := v
      dsimp only at c0 c1 c2 c3 c4 HYes HNo
      obtain ⟨Y, hY⟩ : ∃ Y, wr.alloc (.cells #[.string vt, .string vk, .int .i64 vn, .int .i64 vb, .int .i64 vx] 130) = Y := ⟨_, rfl⟩
      have HY := Lib.hid hY
      have gY : Below wr.heap.size wr Y := by rw [← hY]; exact alloc_below10 _ _
      have rY : Y.heap[wr.heap.size]? = some (.cells #[.string vt, .string vk, .int .i64 vn, .int .i64 vb, .int .i64 vx] 130 (0, 0)) := by rw [← hY]; exact heap_alloc_new _ _
      have y0 : Y.cell? ⟨wr.heap.size, 0, none⟩ = some (.string vt) := cell_of_row _ _ 0 _ _ _ rY
      have y1 : Y.cell? ⟨wr.heap.size, 1, none⟩ = some (.string vk) := cell_of_row _ _ 1 _ _ _ rY
      have z0 := keep_below x0 gY
      have z1 := keep_below x1 gY
      have i1 : (j : Int) < (vs.length : Int) := by omega
      have l1 : (j : Int) ≤ 1599289640354 := by have := HN.out; omega
      have HLT := Lib.hid hlt
      have HBY := Lib.hid (below_next hb gY)
      clear hj hlt hv hc gY rY hY hb hno
      go_upto_region 4 with fail
      rw [HY.out]
      clear c0 c1 c2 c3 c4
      cases he : lkEq (vt, vk) (l.1, l.2)
      · have HT2 := Lib.hid (HNo.out he)
        go_wp2
        go_roundw
        case rel => exact ⟨j + 1, by go_num, HT2.out, HLT.out, HBY.out⟩
        case measure => have := HLT.out; simp [intOf]; omega
      · have HT2 := Lib.hid (HYes.out he)
        go_wp2
        go_ret
        exact ⟨by rw [HT2.out]; rfl, below_next HB.out HBY.out⟩
    · obtain rfl : j = vs.length := by omega
      have i1 : ¬ (vs.length : Int) < (vs.length : Int) := by omega
      rw [List.take_length] at hno
      have HB2 := Lib.hid (below_next HB.out hb)
      have HNO := Lib.hid (first_no hno)
      clear hj hlt hb hno
      go_wp2
      go_ret
      exact ⟨by rw [HNO.out]; rfl, HB2.out⟩
def ofW (rs : List Run10) (tx : Int) : Int := ((rs.findIdx? fun r => decide (r.tx = tx) && !r.over).map fun k : Nat => (k : Int)).getD (-1)
theorem ofW_at {rs : List Run10} {tx : Int} {j : Nat} {r : Run10} (hv : rs[j]? = some r) (hno : ∀ u ∈ rs.take j, (decide (u.tx = tx) && !u.over) = false) (he : (decide (r.tx = tx) && !r.over) = true) : ofW rs tx = (j : Int) := by
  unfold ofW
  obtain ⟨hj, e⟩ := List.getElem?_eq_some_iff.1 hv
  have : rs.findIdx? (fun r => decide (r.tx = tx) && !r.over) = some j := by
    rw [List.findIdx?_eq_some_iff_getElem]
    refine ⟨hj, by rw [e]; exact he, fun k hk => ?_⟩
    have := hno rs[k] (List.mem_iff_getElem?.2 ⟨k, by rw [List.getElem?_take, if_pos hk]; exact List.getElem?_eq_getElem (by omega)⟩)
    rw [this]; simp
  rw [this]; rfl
theorem ofW_no {rs : List Run10} {tx : Int} (hno : ∀ u ∈ rs, (decide (u.tx = tx) && !u.over) = false) : ofW rs tx = -1 := by
  unfold ofW
  have : rs.findIdx? (fun r => decide (r.tx = tx) && !r.over) = none := by
    rw [List.findIdx?_eq_none_iff]
    exact hno
  rw [this]; rfl
theorem ofW_is (rs : List Run10) (tx : Int) : (ofW rs tx = -1 ∧ ∀ r ∈ rs, ¬ (r.tx = tx ∧ r.over = false)) ∨ ∃ (j : Nat) (r : Run10), ofW rs tx = (j : Int) ∧ rs[j]? = some r ∧ r.tx = tx ∧ r.over = false := by
  unfold ofW
  cases h : rs.findIdx? fun r => decide (r.tx = tx) && !r.over with
  | none =>
    refine .inl ⟨rfl, fun r hr he => ?_⟩
    have := (List.findIdx?_eq_none_iff.1 h) r hr
    simp [he.1, he.2] at this
  | some k =>
    obtain ⟨hk, h1, -⟩ := List.findIdx?_eq_some_iff_getElem.1 h
    simp only [Bool.and_eq_true, decide_eq_true_eq, Bool.not_eq_true'] at h1
    exact .inr ⟨k, rs[k], rfl, List.getElem?_eq_getElem hk, h1.1, h1.2⟩
set_option maxHeartbeats 8000000 in
theorem wOf10 {w : World} {p : Nat} {A : Option Addr} {c : Nat} {ms : List RunM} (hc : w.cell? ⟨p, 3, none⟩ = some (.slice A ms.length c)) (h : SB w A (8 * ms.length) (cellsF runC ms)) (hn : ms.length ≤ 1599289640354) (tx : Int) :
    Calls Tryz.prog 26 #[.pointer (some ⟨p, 0, none⟩), .int .i64 tx] w fun e w' => e = .returned (.int .i64 (ofW (ms.map (·.r)) tx)) ∧ Below w.heap.size w w' := by
  have HS := Lib.hid h
  have HN := Lib.hid hn
  clear h hn
  go_enter Tryz.func26, Tryz.ntmps26
  go_upto_region 2 with fail
  clear hc
  go_loopw [12] (fun i wr => ∃ j : Nat, i = .int .i64 (j : Nat) ∧ (∀ u ∈ (ms.map (·.r)).take j, (decide (u.tx = tx) && !u.over) = false) ∧ j ≤ ms.length ∧ Below w.heap.size w wr) (fun i _ => ms.length - (intOf i).toNat)
  case atStart => exact ⟨0, rfl, by simp, Nat.zero_le _, Below.refl _ _⟩
  case round =>
    rename World => wr
    obtain ⟨j, rfl, hno, hj, hb⟩ := hrel
    by_cases hlt : j < ms.length
    · obtain ⟨v, hv⟩ : ∃ v, ms[j]? = some v := ⟨_, List.getElem?_eq_getElem hlt⟩
      have hv' : (ms.map (·.r))[j]? = some v.r := by rw [List.getElem?_map, hv]; rfl
      have HYes := Lib.hid (fun he => ofW_at (tx := tx) hv' hno he)
      have HNo := Lib.hid (fun (he : (decide (v.r.tx = tx) && !v.r.over) = false) => (show ∀ u ∈ (ms.map (·.r)).take (j + 1), (decide (u.tx = tx) && !u.over) = false by
        intro u hu
        rw [List.take_add_one, hv', Option.toList_some] at hu
        rcases List.mem_append.1 hu with hu | hu
        · exact hno u hu
        · rw [List.mem_singleton.1 hu]; exact he))
      obtain ⟨g, o, rfl, hc⟩ := (HS.out.gw hb).el runC_len (by omega) hv
      have c0 : wr.cell? ⟨g, o + j * 8, none⟩ = some (.int .i64 v.r.tx) := hc 0 _ rfl
      have c1 : wr.cell? ⟨g, o + j * 8 + 1, none⟩ = some (.int .i64 v.r.snap) := hc 1 _ rfl
      have c2 : wr.cell? ⟨g, o + j * 8 + 2, none⟩ = some (.int .i64 v.r.begun) := hc 2 _ rfl
      have c3 : wr.cell? ⟨g, o + j * 8 + 3, none⟩ = some (.int .i64 v.r.ended) := hc 3 _ rfl
      have c4 : wr.cell? ⟨g, o + j * 8 + 4, none⟩ = some (.bool v.r.com) := hc 4 _ rfl
      have c5 : wr.cell? ⟨g, o + j * 8 + 5, none⟩ = some (.bool v.r.over) := hc 5 _ rfl
      have c6 : wr.cell? ⟨g, o + j * 8 + 6, none⟩ = some (.slice v.ra v.r.reads.length v.rc) := hc 6 _ rfl
      have c7 : wr.cell? ⟨g, o + j * 8 + 7, none⟩ = some (.slice v.wa v.r.writes.length v.wc) := hc 7 _ rfl
      obtain ⟨⟨vt, vs, vb, ve, vc, vo, vr, vw⟩, ra, rc, wa, wc⟩ := v
      dsimp only at c0 c1 c2 c3 c4 c5 c6 c7 HYes HNo
      obtain ⟨Y, hY⟩ : ∃ Y, wr.alloc (.cells #[.int .i64 vt, .int .i64 vs, .int .i64 vb, .int .i64 ve, .bool vc, .bool vo, .slice ra vr.length rc, .slice wa vw.length wc] 70) = Y := ⟨_, rfl⟩
      have HY := Lib.hid hY
      have gY : Below wr.heap.size wr Y := by rw [← hY]; exact alloc_below10 _ _
      have rY : Y.heap[wr.heap.size]? = some (.cells #[.int .i64 vt, .int .i64 vs, .int .i64 vb, .int .i64 ve, .bool vc, .bool vo, .slice ra vr.length rc, .slice wa vw.length wc] 70 (0, 0)) := by rw [← hY]; exact heap_alloc_new _ _
      have y0 : Y.cell? ⟨wr.heap.size, 0, none⟩ = some (.int .i64 vt) := cell_of_row _ _ 0 _ _ _ rY
      have y5 : Y.cell? ⟨wr.heap.size, 5, none⟩ = some (.bool vo) := cell_of_row _ _ 5 _ _ _ rY
      have i1 : (j : Int) < (ms.length : Int) := by omega
      have l1 : (j : Int) ≤ 1599289640354 := by have := HN.out; omega
      have HLT := Lib.hid hlt
      have HBY := Lib.hid (below_next hb gY)
      clear hj hlt hv hv' hc gY rY hY hb hno
      go_upto_region 4 with fail
      rw [HY.out]
      clear c0 c1 c2 c3 c4 c5 c6 c7
      by_cases he : vt = tx
      · subst he
        cases vo
        · have HT2 := Lib.hid (HYes.out (by simp))
          go_wp2
          go_ret
          exact ⟨by rw [HT2.out]; rfl, HBY.out⟩
        · have HT2 := Lib.hid (HNo.out (by simp))
          go_wp2
          go_roundw
          case rel => exact ⟨j + 1, by go_num, HT2.out, HLT.out, HBY.out⟩
          case measure => have := HLT.out; simp [intOf]; omega
      · have he' : (vt == tx) = false := by simpa using he
        have HT2 := Lib.hid (HNo.out (by simp [he]))
        go_wp2
        go_roundw
        case rel => exact ⟨j + 1, by go_num, HT2.out, HLT.out, HBY.out⟩
        case measure => have := HLT.out; simp [intOf]; omega
    · obtain rfl : j = ms.length := by omega
      have i1 : ¬ (ms.length : Int) < (ms.length : Int) := by omega
      rw [List.take_of_length_le (by simp)] at hno
      have HNO := Lib.hid (ofW_no hno)
      have HB2 := Lib.hid hb
      clear hj hlt hb hno
      go_wp2
      go_ret
      exact ⟨by rw [HNO.out]; rfl, HB2.out⟩
end Go.Proofs.YtknppiebncdjmaaGreat
