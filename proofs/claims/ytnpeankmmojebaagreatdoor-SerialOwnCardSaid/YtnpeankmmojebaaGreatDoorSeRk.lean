/- Layer 11: the reference's free and Order. -/
import Derived.Test.YtnpeankmmojebaaGreatDoorJBL
import Derived.Test.YtnpeankmmojebaaGreatDoorJBJ
set_option linter.unusedVariables false
namespace Go.Proofs.YtnpeankmmojebaaGreatDoor
set_option maxRecDepth 100000
set_option maxRecDepth 100000
open Go.RowKit

section
variable {w : World} {gA oA : Option Addr} {gc q on oc : Nat} {GR : List Dp} {D : List Int}
set_option maxHeartbeats 16000000 in
theorem wrFree (hg : SB w gA (3 * GR.length) (cellsE dpC GR)) (hq : GR.length = q) (hl : q ≤ 8192) (hs : SB w oA on (numC D)) (hD : D.length = on) (hon : on ≤ 4096) (t : Int) :
    Calls Tryz.prog 30 #[.slice gA q gc, .slice oA on oc, .int .i64 t] w fun e w' => e = .returned (.bool (freeB GR D t)) ∧ w' = w := by
  have HG := Lib.hid hg
  have HQ := Lib.hid hq
  have HL := Lib.hid hl
  have CA := Lib.hid (fun (s : Int) => wrAt (c := oc) hs hD hon s)
  obtain ⟨r, hr⟩ : ∃ r, freeB GR D t = r := ⟨_, rfl⟩
  have HR := Lib.hid hr
  rw [hr]
  clear hg hq hl hr hs hD hon
  go_enter Tryz.func30, Tryz.ntmps30
  go_upto_region 2 with fail
  go_loopw [7] (fun i wr => ∃ j : Nat, i = .int .i64 (j : Nat) ∧ j ≤ q ∧ freeB (GR.take j) D t = true ∧ wr = w) (fun i _ => q - (intOf i).toNat)
  case atStart => exact ⟨0, rfl, Nat.zero_le _, by simp [freeB], rfl⟩
  case round =>
    rename World => wr
    obtain ⟨j, rfl, hj, ha, rfl⟩ := hrel
    by_cases hlt : j < q
    · obtain ⟨y, hy⟩ : ∃ y, GR[j]? = some y := ⟨_, List.getElem?_eq_getElem (by rw [HQ.out]; exact hlt)⟩
      obtain ⟨g, o, rfl, c0, c1, c2⟩ := DL.at_ HG.out hy
      have i1 : (j : Int) < (q : Int) := by omega
      have l1 : (j : Int) ≤ 8192 := by have := HL.out; omega
      have HN := Lib.hid (free_next hy D t)
      have HNO := Lib.hid (show y.to = t → plcP D y.fr < 0 → r = false from fun e1 e2 => by
        rw [← HR.out]
        unfold freeB
        rw [Bool.eq_false_iff]
        intro k
        have := List.all_eq_true.1 k y (List.mem_of_getElem? hy)
        rw [decide_eq_true e1, decide_eq_true e2] at this
        cases this)
      have HA := Lib.hid ha
      have HLT := Lib.hid hlt
      have CA2 := Lib.hid (CA.out y.fr)
      obtain ⟨yf, yt, yk⟩ := y
      dsimp only at *
      clear hy ha hj hlt c2
      by_cases h1 : yt = t
      · have d1 : (yt == t) = true := by simpa using h1
        obtain ⟨p, hp⟩ : ∃ p, plcP D yf = p := ⟨_, rfl⟩
        rw [hp] at HN HNO CA2
        clear hp
        by_cases h2 : p < 0
        · have HT := Lib.hid (HNO.out h1 h2)
          clear h1
          go_wp2_with (go_at_call 29; go_loud (refine CA2.out.mono ?_; rintro e w2 ⟨rfl, rfl⟩))
          go_ret
          exact ⟨by rw [HT.out]; rfl, rfl⟩
        · have HN2 := Lib.hid (show freeB (GR.take (j + 1)) D t = true by rw [HN.out, HA.out]; simp [h2])
          clear h1
          go_wp2_with (go_at_call 29; go_loud (refine CA2.out.mono ?_; rintro e w2 ⟨rfl, rfl⟩))
          go_roundw
          case rel => exact ⟨j + 1, by go_num, HLT.out, HN2.out, by first | rfl | trivial⟩
          case measure => have := HLT.out; simp [intOf]; omega
      · have d1 : (yt == t) = false := by simpa using h1
        have HN2 := Lib.hid (show freeB (GR.take (j + 1)) D t = true by rw [HN.out, HA.out]; simp [h1])
        clear h1
        go_wp2
        go_roundw
        case rel => exact ⟨j + 1, by go_num, HLT.out, HN2.out, by first | rfl | trivial⟩
        case measure => have := HLT.out; simp [intOf]; omega
    · obtain rfl : j = q := by omega
      have i1 : ¬ (j : Int) < (j : Int) := by omega
      have HT := Lib.hid (show r = true by rw [← HR.out, ← ha, ← HQ.out, List.take_length])
      clear ha hj hlt
      go_wp2
      go_ret
      exact ⟨by rw [HT.out]; rfl, rfl⟩
end
theorem sb_int1Z (X : World) (x : Int) : SB (X.alloc (.cells #[.int .i64 x] 3)) (some ⟨X.heap.size, 0, none⟩) (seI.s * 1) [.int .i64 x] := by
  refine ⟨rfl, fun u hu => by rw [List.mem_singleton.1 hu]; rfl, fun _ => ⟨X.heap.size, 0, rfl, fun j u hj => ?_⟩⟩
  rw [cell_of_row _ _ _ _ _ _ (heap_alloc_new X _)]
  simpa using hj
section
variable {w : World} {A B : Option Addr} {n c m d : Nat} {cs : List Int} {ac : List Ac} {M : List Nat}
set_option maxHeartbeats 64000000 in
theorem wrOrder (h : Hist w A n c B m d cs ac) (hR : Right cs ac) (hM : FillP (edgeH cs ac) n [] M) :
    Calls Tryz.prog 8 #[histV A n c B m d] w fun e w' => ∃ v, e = .returned (.tuple #[v, .bool (decide (M.length = n))]) ∧ SO seI w.heap.size w' v (if M.length = n then n else 0) (if M.length = n then numC (numsP cs M) else []) ∧ Below w.heap.size w w' := by
  obtain ⟨W0, hB⟩ := h.box
  have HB := Lib.hid hB
  have HW := Lib.hid hB.eq
  have X0 := Lib.hid hB.x0
  have X1 := Lib.hid hB.x1
  have hcl : cs.length = n := h.cl
  have hn : n ≤ 4096 := by rw [← hcl]; exact hR.lc
  have hm : m ≤ 4096 := by rw [← h.al]; exact hR.la
  have CG := Lib.hid (wrGraph hB.h hn hm)
  have HGL := Lib.hid (show (graphP cs ac).length ≤ 8192 by
    have h1 := graph_len cs ac ac []
    have h2 := hR.la
    simp only [List.length_nil] at h1
    unfold graphP; omega)
  have HR := Lib.hid hR
  have HN := Lib.hid hn
  have HCL := Lib.hid hcl
  have HM := Lib.hid hM
  have x0 := hB.x0
  have x1 := hB.x1
  unfold histV at CG ⊢
  clear h hB hR hn hm hcl hM
  go_enter Tryz.func8, Tryz.ntmps8
  go_upto_region 1 with fail
  rw [HW.out]
  go_upto_region 3 with (go_at_call 20; go_loud (refine CG.out.mono ?_; rintro e w1 ⟨v1, rfl, dl1, b1⟩; have B1 := Lib.hid b1; have DL1 := Lib.hid dl1; clear b1 dl1))
  clear x0 x1
  obtain ⟨gA, gc, rfl, hg, -, -⟩ := DL1.out
  have HG := Lib.hid hg
  obtain ⟨q, hq⟩ : ∃ q, (graphP cs ac).length = q := ⟨_, rfl⟩
  have HQ := Lib.hid hq
  rw [hq] at HGL
  simp only [hq]
  clear hg hq DL1
  go_loopg [5] (n + 1) (fun gk dv wr => ∃ K, LayP (edgeH cs ac) n K ∧ (∀ N, FillP (edgeH cs ac) n K N → FillP (edgeH cs ac) n [] N) ∧ SO seI w1.heap.size wr dv K.length (numC (numsP cs K)) ∧ Below w1.heap.size w1 wr ∧ gk + K.length = n + 1)
  case atStart => exact ⟨[], .nil, fun _ h => h, SO.nil _ _ _, Below.refl _ _, rfl⟩
  case round =>
    rename World => wr
    obtain ⟨K, hK, hF, hs, hb, hgk⟩ := hrel
    obtain ⟨oA, oc, rfl, hsb, hkc, -, -⟩ := hs.form
    have e1 : seI.s * K.length = K.length := Nat.one_mul _
    rw [e1] at hsb
    have hkn := hK.le
    obtain ⟨k, hk⟩ : ∃ k, K.length = k := ⟨_, rfl⟩
    have y0 := keep_below X0.out (B1.out.trans (hb.mono B1.out.size))
    rw [hk] at hsb hgk hkn hs
    have k4 : (k : Int) ≤ 4096 := by have := HN.out; omega
    have HDL := Lib.hid (show (numsP cs K).length = k by simp [numsP, hk])
    simp only [hk]
    by_cases hlt : k < n
    · have i1 : (k : Int) < (n : Int) := by omega
      have HS := Lib.hid hs
      have HSB := Lib.hid hsb
      have HBL := Lib.hid hb
      have HK := Lib.hid hK
      have HF := Lib.hid hF
      have HGK := Lib.hid (And.intro hlt hgk)
      have HKL := Lib.hid hk
      have HBR := Lib.hid (best_rank HR.out (K := K) (by rw [HCL.out]; exact hK.lt))
      have CA := Lib.hid (fun (t : Int) => wrAt (c := oc) hsb HDL.out (by have := HN.out; omega) t)
      have CF := Lib.hid (fun (t : Int) => wrFree (gc := gc) (oc := oc) (HG.out.gw hb) HQ.out HGL.out hsb HDL.out (by have := HN.out; omega) t)
      clear hK hF hs hsb hb hgk hkn hk hkc hlt
      go_upto_region 6 with fail
      clear y0
      obtain ⟨t, ht⟩ : ∃ t, bestP (okR (graphP cs ac) (numsP cs K)) cs 0 = t := ⟨_, rfl⟩
      rw [ht] at HBR
      have HT := Lib.hid ht
      clear ht
      go_loopw [6, 7] (fun bv i wy => ∃ (j : Nat) (b : Int), i = .int .i64 (j : Nat) ∧ bv = .int .i64 b ∧ j ≤ n ∧ bestP (okR (graphP cs ac) (numsP cs K)) (cs.drop j) b = t ∧ wy = wr) (fun _ i _ => n - (intOf i).toNat)
      case atStart => exact ⟨0, 0, rfl, rfl, Nat.zero_le _, HT.out, rfl⟩
      case round =>
        rename World => wy
        obtain ⟨j, b, rfl, rfl, hj, hst, rfl⟩ := hrel
        have z0 := keep_below X0.out (B1.out.trans (HBL.out.mono B1.out.size))
        by_cases hjn : j < n
        · obtain ⟨x, hx⟩ : ∃ x, cs[j]? = some x := ⟨_, List.getElem?_eq_getElem (by rw [HCL.out]; exact hjn)⟩
          have hdrop : cs.drop j = x :: cs.drop (j + 1) := by rw [List.drop_eq_getElem_cons (by rw [HCL.out]; exact hjn), (List.getElem?_eq_some_iff.1 hx).2]
          rw [hdrop, bestP] at hst
          obtain ⟨g3, o3, rfl, u0⟩ := (HB.out.h.gw (B1.out.trans (HBL.out.mono B1.out.size))).cb.num hx
          have j1 : (j : Int) < (n : Int) := by omega
          have j2 : (j : Int) ≤ 4096 := by have := HN.out; omega
          have HLT := Lib.hid hjn
          have HST0 := Lib.hid hst
          have CAX := Lib.hid (CA.out x)
          have CFX := Lib.hid (CF.out x)
          obtain ⟨p, hpe⟩ : ∃ p, plcP (numsP cs K) x = p := ⟨_, rfl⟩
          rw [hpe] at CAX
          clear hj hst hjn hx hdrop
          by_cases hb0 : b = 0
          · subst hb0
            have hbx : (0 : Int) = 0 ∨ x < 0 := .inl rfl
            by_cases hp : p < 0
            · cases fr : freeB (graphP cs ac) (numsP cs K) x with
              | true =>
                rw [fr] at CFX
                have HST := Lib.hid (show bestP (okR (graphP cs ac) (numsP cs K)) (cs.drop (j + 1)) x = t from by
                  have := HST0.out
                  rwa [if_pos ⟨hbx, by unfold okR; rw [hpe, fr, decide_eq_true hp]; rfl⟩] at this)
                clear hbx hpe fr
                go_wp2_with (first
                  | (go_at_call 29; go_loud (refine CAX.out.mono ?_; rintro e w2 ⟨rfl, rfl⟩))
                  | (go_at_call 30; go_loud (refine CFX.out.mono ?_; rintro e w2 ⟨rfl, rfl⟩)))
                go_roundw
                case rel => exact ⟨j + 1, x, by go_num, rfl, HLT.out, HST.out, by first | rfl | trivial⟩
                case measure => have := HLT.out; simp [intOf]; omega
              | false =>
                rw [fr] at CFX
                have HST := Lib.hid (show bestP (okR (graphP cs ac) (numsP cs K)) (cs.drop (j + 1)) 0 = t from by
                  have := HST0.out
                  rwa [if_neg (fun k => by have := k.2; unfold okR at this; rw [fr, Bool.and_false] at this; cases this)] at this)
                clear hbx hpe fr
                go_wp2_with (first
                  | (go_at_call 29; go_loud (refine CAX.out.mono ?_; rintro e w2 ⟨rfl, rfl⟩))
                  | (go_at_call 30; go_loud (refine CFX.out.mono ?_; rintro e w2 ⟨rfl, rfl⟩)))
                go_roundw
                case rel => exact ⟨j + 1, 0, by go_num, rfl, HLT.out, HST.out, by first | rfl | trivial⟩
                case measure => have := HLT.out; simp [intOf]; omega
            · have HST := Lib.hid (show bestP (okR (graphP cs ac) (numsP cs K)) (cs.drop (j + 1)) 0 = t from by
                have := HST0.out
                rwa [if_neg (fun k => by have := k.2; unfold okR at this; rw [hpe, decide_eq_false hp, Bool.false_and] at this; cases this)] at this)
              clear hbx hpe
              go_wp2_with (first
                | (go_at_call 29; go_loud (refine CAX.out.mono ?_; rintro e w2 ⟨rfl, rfl⟩))
                | (go_at_call 30; go_loud (refine CFX.out.mono ?_; rintro e w2 ⟨rfl, rfl⟩)))
              go_roundw
              case rel => exact ⟨j + 1, 0, by go_num, rfl, HLT.out, HST.out, by first | rfl | trivial⟩
              case measure => have := HLT.out; simp [intOf]; omega
          · have e0 : (b == 0) = false := by simpa using hb0
            by_cases hxb : x < b
            · have hbx : b = 0 ∨ x < b := .inr hxb
              by_cases hp : p < 0
              · cases fr : freeB (graphP cs ac) (numsP cs K) x with
                | true =>
                  rw [fr] at CFX
                  have HST := Lib.hid (show bestP (okR (graphP cs ac) (numsP cs K)) (cs.drop (j + 1)) x = t from by
                    have := HST0.out
                    rwa [if_pos ⟨hbx, by unfold okR; rw [hpe, fr, decide_eq_true hp]; rfl⟩] at this)
                  clear hbx hpe fr
                  go_wp2_with (first
                    | (go_at_call 29; go_loud (refine CAX.out.mono ?_; rintro e w2 ⟨rfl, rfl⟩))
                    | (go_at_call 30; go_loud (refine CFX.out.mono ?_; rintro e w2 ⟨rfl, rfl⟩)))
                  go_roundw
                  case rel => exact ⟨j + 1, x, by go_num, rfl, HLT.out, HST.out, by first | rfl | trivial⟩
                  case measure => have := HLT.out; simp [intOf]; omega
                | false =>
                  rw [fr] at CFX
                  have HST := Lib.hid (show bestP (okR (graphP cs ac) (numsP cs K)) (cs.drop (j + 1)) b = t from by
                    have := HST0.out
                    rwa [if_neg (fun k => by have := k.2; unfold okR at this; rw [fr, Bool.and_false] at this; cases this)] at this)
                  clear hbx hpe fr
                  go_wp2_with (first
                    | (go_at_call 29; go_loud (refine CAX.out.mono ?_; rintro e w2 ⟨rfl, rfl⟩))
                    | (go_at_call 30; go_loud (refine CFX.out.mono ?_; rintro e w2 ⟨rfl, rfl⟩)))
                  go_roundw
                  case rel => exact ⟨j + 1, b, by go_num, rfl, HLT.out, HST.out, by first | rfl | trivial⟩
                  case measure => have := HLT.out; simp [intOf]; omega
              · have HST := Lib.hid (show bestP (okR (graphP cs ac) (numsP cs K)) (cs.drop (j + 1)) b = t from by
                  have := HST0.out
                  rwa [if_neg (fun k => by have := k.2; unfold okR at this; rw [hpe, decide_eq_false hp, Bool.false_and] at this; cases this)] at this)
                clear hbx hpe
                go_wp2_with (first
                  | (go_at_call 29; go_loud (refine CAX.out.mono ?_; rintro e w2 ⟨rfl, rfl⟩))
                  | (go_at_call 30; go_loud (refine CFX.out.mono ?_; rintro e w2 ⟨rfl, rfl⟩)))
                go_roundw
                case rel => exact ⟨j + 1, b, by go_num, rfl, HLT.out, HST.out, by first | rfl | trivial⟩
                case measure => have := HLT.out; simp [intOf]; omega
            · have HST := Lib.hid (show bestP (okR (graphP cs ac) (numsP cs K)) (cs.drop (j + 1)) b = t from by
                have := HST0.out
                rwa [if_neg (fun k => k.1.elim hb0 hxb)] at this)
              clear hpe
              go_wp2_with (first
                | (go_at_call 29; go_loud (refine CAX.out.mono ?_; rintro e w2 ⟨rfl, rfl⟩))
                | (go_at_call 30; go_loud (refine CFX.out.mono ?_; rintro e w2 ⟨rfl, rfl⟩)))
              go_roundw
              case rel => exact ⟨j + 1, b, by go_num, rfl, HLT.out, HST.out, by first | rfl | trivial⟩
              case measure => have := HLT.out; simp [intOf]; omega
        · obtain rfl : j = n := by omega
          have j1 : ¬ (j : Int) < (j : Int) := by omega
          rw [← HCL.out, List.drop_length, bestP] at hst
          subst hst
          clear hj hjn
          rcases HBR.out with ⟨rfl, hnone⟩ | ⟨v, hv, hnv, hb0, hr, hleast⟩
          · have hMK : M = K := HM.out.det (HF.out K (.stop (by rw [← HCL.out]; exact hnone)))
            have HMN := Lib.hid (show ¬ M.length = j by rw [hMK, HKL.out]; have := HGK.out.1; omega)
            clear hnone hMK
            go_wp2
            go_ret2
            have hmn := HMN.out
            refine ⟨.slice none 0 0, by simp, ?_, below_next (below_next HB.out.below B1.out) HBL.out⟩
            have h9 := SO.nil seI w.heap.size wy
            simpa [hmn] using h9
          · have e0 : (b == 0) = false := by simpa using hb0
            have hl4 := HK.out.le
            have HV := Lib.hid (And.intro hv hnv)
            have HK2 := Lib.hid (LayP.snoc HK.out (by rw [← HCL.out]; exact hv) hr)
            have HF2 := Lib.hid (show ∀ N, FillP (edgeH cs ac) j (K ++ [v]) N → FillP (edgeH cs ac) j [] N from fun N hN => HF.out N (.step (by rw [← HCL.out]; exact hv) hr hleast hN))
            have SBX := Lib.hid (sb_int1Z wy b)
            have HS2 := Lib.hid (HS.out.below (alloc_below11 wy (.cells #[.int .i64 b] 3)))
            have HSZ := Lib.hid HBL.out.size
            clear hv hnv hb0 hr hleast
            go_wp2_with (at_builtin; go_loud (refine so_append seI_ok (by rfl) (.tmp 51) (.tmp 53) (by rfl) _ (by rfl) HS2.out (some ⟨wy.heap.size, 0, none⟩) 1 1 [.int .i64 b] (by rfl) SBX.out (by have := HGK.out; have := HN.out; omega) (by have := HSZ.out; simp; omega) ?_; intro v5 w5 o5 b5; have O5 := Lib.hid o5; have B5 := Lib.hid b5; clear o5 b5))
            go_roundg (gk - 1)
            case measure => have := HGK.out; omega
            case rel =>
              refine ⟨K ++ [v], HK2.out, HF2.out, ?_, ?_, by have := HGK.out; have := HKL.out; rw [List.length_append, List.length_singleton]; omega⟩
              · rw [nums_snoc HV.out.2, List.length_append, HKL.out]
                have := O5.out
                rw [show numC (numsP cs K ++ [b]) = numC (numsP cs K) ++ [.int .i64 b] by simp [numC]]
                exact this
              · exact (HBL.out.alloc HBL.out.size _).trans B5.out
    · have hkn2 : k = n := by omega
      have hMK : M = K := HM.out.det (hF K (.stop fun v hv => by
        cases hr : rdyB (edgeH cs ac) K v with
        | false => rfl
        | true => exact absurd (hK.all (by omega) v hv) (rdyB_is.1 hr).1))
      subst hMK
      have i1 : ¬ (k : Int) < (n : Int) := by omega
      have HS := Lib.hid hs
      have HB2 := Lib.hid (B1.out.trans (hb.mono B1.out.size))
      have HKN := Lib.hid (show M.length = n by omega)
      have HKK := Lib.hid hkn2
      clear hK hF hs hsb hb hgk hkn hkc hlt hk
      go_wp2
      go_ret2
      have hkn := HKN.out
      refine ⟨.slice oA k oc, by simp [HKK.out], ?_, below_next HB.out.below HB2.out⟩
      have h9 := HS.out.lower (Nat.le_trans HB.out.below.size B1.out.size)
      rw [HKK.out] at h9 ⊢
      exact h9
end
end Go.Proofs.YtnpeankmmojebaaGreatDoor
