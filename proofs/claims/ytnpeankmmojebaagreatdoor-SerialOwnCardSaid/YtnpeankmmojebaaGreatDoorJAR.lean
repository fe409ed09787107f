import Derived.Test.YtnpeankmmojebaaGreatDoorJAQ
import Derived.BigQuiet
import Derived.Test.YtnpeankmmojebaaGreatDoorSRow
import Derived.Deep.AppendLies
/- Layer 11: slices.Compact of dependencies, walked. -/
set_option linter.unusedVariables false
namespace Go.Proofs.YtnpeankmmojebaaGreatDoor
set_option maxRecDepth 100000
set_option maxRecDepth 100000
open Go.RowKit

theorem neDp (a b : Dp) (w : World) : (binOp .neq 51 (.agg #[.int .i64 a.fr, .int .i64 a.to, .int .i64 a.kd]) (.agg #[.int .i64 b.fr, .int .i64 b.to, .int .i64 b.kd])).run Tryz.prog w = .ok (.bool (!decide (a = b))) w := by
  have h := eqDp a b w
  rw [run_eql_struct] at h
  rw [run_neq_struct]
  cases hr : (Op.equalIn 10000 51 (.agg #[.int .i64 a.fr, .int .i64 a.to, .int .i64 a.kd]) (.agg #[.int .i64 b.fr, .int .i64 b.to, .int .i64 b.kd])).run Tryz.prog w with
  | ok v w' =>
    rw [hr] at h
    simp at h
    obtain ⟨rfl, rfl⟩ := h
    simp
  | halt x w' => rw [hr] at h; simp at h
theorem so_dep {base n c g : Nat} {w : World} {ys : List Dp} (h : SO seD base w (.slice (some ⟨g, 0, none⟩) n c) n (cellsE dpC ys)) {j : Nat} {x : Dp} (hx : ys[j]? = some x) : w.cell? ⟨g, j * 3, none⟩ = some (.int .i64 x.fr) ∧ w.cell? ⟨g, j * 3 + 1, none⟩ = some (.int .i64 x.to) ∧ w.cell? ⟨g, j * 3 + 2, none⟩ = some (.int .i64 x.kd) := by
  have hl : (cellsE dpC ys).length = 3 * n := h.len
  have hn : ys.length = n := by rw [cellsE_len dpC_len] at hl; omega
  obtain ⟨A, c', e1, hsb, -⟩ := h.form
  cases e1
  subst hn
  obtain ⟨b, o, e, c0, c1, c2⟩ := DL.at_ (show SB w (some ⟨g, 0, none⟩) (3 * ys.length) (cellsE dpC ys) from hsb) hx
  cases e
  simp only [Nat.zero_add] at c0 c1 c2
  exact ⟨c0, c1, c2⟩
set_option maxHeartbeats 32000000 in
/-- slices.Compact of a list that the call made, and that rises. -/
theorem wcompactD {base : Nat} {w : World} {v : Value} {ys : List Dp} (h : SO seD base w v ys.length (cellsE dpC ys)) (hn : ys.length ≤ 4000000) :
    Calls Tryz.prog 56 #[v] w fun e w' => ∃ v', e = .returned v' ∧ SO seD base w' v' (cpD ys ys.length).length (cellsE dpC (cpD ys ys.length)) ∧ Below base w w' := by
  rcases h.own.2 with ⟨rfl, h0⟩ | ⟨g, c, cur, rfl, hb, hh, hcc, hcm, -⟩
  · have hz : ys = [] := List.eq_nil_of_length_eq_zero h0
    subst hz
    go_enter Tryz.func56, Tryz.ntmps56
    go_wp2
    go_ret
    exact ⟨_, rfl, SO.nil _ _ _, Below.refl _ _⟩
  · have hlt := (Array.getElem?_eq_some_iff.1 hh).1
    obtain ⟨n, hnn⟩ : ∃ n, ys.length = n := ⟨_, rfl⟩
    rw [hnn] at h hn hcc ⊢
    have HNN := Lib.hid hnn
    have HS := Lib.hid h
    have HN := Lib.hid hn
    have HB := Lib.hid hb
    have HLT := Lib.hid hlt
    have HCC := Lib.hid hcc
    have HFR := Lib.hid (fun k => frozen_of_so h k)
    clear h hb hh hcm hlt hnn
    by_cases hs : n < 2
    · have HE := Lib.hid (show cpD ys n = ys by
        rw [cpD_all n (by rw [HNN.out]; exact Nat.le_refl _) fun j y h1 h2 => by omega, ← HNN.out, List.take_length])
      have i1 : (n : Int) < 2 := by omega
      rw [HE.out, HNN.out]
      clear hs hn hcc
      go_enter Tryz.func56, Tryz.ntmps56
      go_wp2
      go_ret
      exact ⟨_, rfl, HS.out, Below.refl _ _⟩
    · have i1 : ¬ (n : Int) < 2 := by omega
      have HS2 := Lib.hid hs
      obtain ⟨D, hD⟩ : ∃ D, cpD ys n = D := ⟨_, rfl⟩
      rw [hD]
      have HD := Lib.hid hD
      clear hs hn hcc hD
      go_enter Tryz.func56, Tryz.ntmps56
      go_upto_region 4 with fail
      go_loopw [3] (fun i wr => ∃ k : Nat, i = .int .i64 (k : Nat) ∧ 1 ≤ k ∧ k ≤ n ∧ (∀ j y, 0 < j → j < k → ys[j]? = some y → ys[j - 1]? ≠ some y) ∧ ∃ q, wr = w.drewN q) (fun i _ => n - (intOf i).toNat)
      case atStart => exact ⟨1, rfl, Nat.le_refl _, by have := HS2.out; omega, fun j y h1 h2 => by omega, 0, rfl⟩
      case round =>
        rename World => wr
        obtain ⟨k, rfl, hk1, hk, hne, q, rfl⟩ := hrel
        have hso : SO seD base (w.drewN q) (.slice (some ⟨g, 0, none⟩) n c) n (cellsE dpC ys) := HS.out.below ⟨rfl, rfl, rfl, Nat.le_refl _, fun _ _ => rfl⟩
        obtain ⟨W, hW⟩ : ∃ W, w.drewN q = W := ⟨_, rfl⟩
        rw [hW] at hso ⊢
        have HWQ := Lib.hid hW
        have BW := Lib.hid (show Below w.heap.size w W by rw [← hW]; exact ⟨rfl, rfl, rfl, Nat.le_refl _, fun _ _ => rfl⟩)
        clear hW
        by_cases hlt : k < n
        · obtain ⟨p, hp⟩ : ∃ p, k = p + 1 := ⟨k - 1, by omega⟩
          obtain ⟨y, hy⟩ : ∃ y, ys[k]? = some y := ⟨_, List.getElem?_eq_getElem (by rw [HNN.out]; exact hlt)⟩
          obtain ⟨x, hx⟩ : ∃ x, ys[p]? = some x := ⟨_, List.getElem?_eq_getElem (by rw [HNN.out]; omega)⟩
          obtain ⟨a0, a1, a2⟩ := so_dep hso hy
          obtain ⟨b0, b1, b2⟩ := so_dep hso hx
          have EQ := fun W => eqDp y x W
          have i2 : (k : Int) < (n : Int) := by omega
          have l1 : (k : Int) ≤ 4000000 := by have := HN.out; omega
          have l2 : (0 : Int) ≤ (k : Int) := by omega
          have l3 : (p : Int) < (n : Int) := by omega
          have l4 : (0 : Int) ≤ (p : Int) := by omega
          have ew : IntKind.i64.wrap ((k : Int) - 1) = (p : Int) := by rw [IntKind.wrap_i64]; omega
          have ew2 : wrap64 ((k : Int) - 1) = (p : Int) := by unfold wrap64; omega
          have HP := Lib.hid hp
          have HSO := Lib.hid hso
          have HLT2 := Lib.hid hlt
          have HK1 := Lib.hid hk1
          have HNE := Lib.hid hne
          have HY := Lib.hid hy
          have HX := Lib.hid hx
          have hxy : (ys[k - 1]? = some y) ↔ y = x := by
            rw [show k - 1 = p by omega, hx]
            exact ⟨fun h => (Option.some.inj h).symm, fun h => by rw [h]⟩
          have HXY := Lib.hid hxy
          obtain ⟨yf, yt, yk⟩ := y
          obtain ⟨xf, xt, xk⟩ := x
          dsimp only at a0 a1 a2 b0 b1 b2 EQ
          clear hp hso hlt hk1 hne hy hx hk hxy
          by_cases he : (⟨yf, yt, yk⟩ : Dp) = ⟨xf, xt, xk⟩
          · rw [show decide ((⟨yf, yt, yk⟩ : Dp) = ⟨xf, xt, xk⟩) = true by simpa using he] at EQ
            obtain ⟨r, hr⟩ : ∃ r, n = k + r := ⟨n - k, by have := HLT2.out; omega⟩
            have hD0 : cpD ys k = ys.take k := cpD_all k (by rw [HNN.out]; omega) HNE.out
            have hD1 : cpD ys (k + 1) = ys.take k := by rw [cpD_next HY.out, if_pos ⟨HK1.out, HXY.out.2 he⟩, hD0]
            have HD1 := Lib.hid hD1
            have HR := Lib.hid hr
            have RF : ∀ W', (Instr.slice 45 (.slice (some ⟨g, 0, none⟩) n c) (some (.int .i64 (k : Int))) none none).run Tryz.prog W' = .ok (.slice (some ⟨g, k * 3, none⟩) r (c - k)) W' := fun W' => by
              have := run_fromE seD_ok W' (some ⟨g, 0, none⟩) n c k (Nat.le_of_lt HLT2.out) HCC.out
              rw [if_neg (by have := HLT2.out; have := HCC.out; omega), show n - k = r by omega] at this
              rw [show (some (⟨g, k * 3, none⟩ : Addr)) = (some (⟨g, 0, none⟩ : Addr)).map (·.add (k * seD.s)) by simp [Addr.add, seD]]
              exact this
            have hr1 : 1 ≤ r := by have := HLT2.out; omega
            have HR1 := Lib.hid hr1
            have l5 : (1 : Int) ≤ (r : Int) := by omega
            clear he hr hD0 hD1 hr1
            go_upto_region 6 with fail
            go_quiet (fail)
            go_upto_region 9 with fail
            obtain ⟨W2, hW2⟩ : ∃ W2, W.drewN nq = W2 := ⟨_, rfl⟩
            have HS3 := Lib.hid (show SO seD base W2 (.slice (some ⟨g, 0, none⟩) n c) n (cellsE dpC ys) by rw [← hW2]; exact HSO.out.below ⟨rfl, rfl, rfl, Nat.le_refl _, fun _ _ => rfl⟩)
            have O2 := Lib.hid (show Out (fun i => i = g) w W2 by rw [← hW2]; exact (Out.of_below BW.out _).then ⟨rfl, rfl, rfl, Nat.le_refl _, fun _ _ _ => rfl⟩)
            rw [hW2]
            clear a0 a1 a2 b0 b1 b2 EQ RF hW2
            go_loopw [3, 5] (fun kv jv wx => ∃ (k' j : Nat) (C : List Dp), kv = .int .i64 (k' : Nat) ∧ jv = .int .i64 (j : Nat) ∧ 1 ≤ j ∧ j ≤ r ∧ C.length = n ∧ C.take k' = cpD ys (k + j) ∧ (cpD ys (k + j)).length = k' ∧ k' + 1 ≤ k + j ∧ (∀ i, k + j ≤ i + 1 → C[i]? = ys[i]?) ∧ SO seD base wx (.slice (some ⟨g, 0, none⟩) n c) n (cellsE dpC C) ∧ Out (fun i => i = g) w wx) (fun _ jv _ => r - (intOf jv).toNat)
            case atStart => exact ⟨k, 1, ys, rfl, rfl, Nat.le_refl _, HR1.out, HNN.out, HD1.out.symm, by rw [HD1.out, List.length_take, HNN.out]; have := HLT2.out; omega, Nat.le_refl _, fun _ _ => rfl, HS3.out, O2.out⟩
            case round =>
              rename World => wx
              obtain ⟨k', j, C, rfl, rfl, hj1, hj, hcl, htk, hkl, hkk, hsame, hso, hout⟩ := hrel
              by_cases hlt : j < r
              · obtain ⟨t, ht⟩ : ∃ t, j = t + 1 := ⟨j - 1, by omega⟩
                obtain ⟨y2, hy⟩ : ∃ y, ys[k + j]? = some y := ⟨_, List.getElem?_eq_getElem (by rw [HNN.out, HR.out]; omega)⟩
                obtain ⟨x2, hx⟩ : ∃ x, ys[k + t]? = some x := ⟨_, List.getElem?_eq_getElem (by rw [HNN.out, HR.out]; omega)⟩
                obtain ⟨a0, a1, a2⟩ := so_dep hso ((hsame (k + j) (by omega)).trans hy)
                obtain ⟨b0, b1, b2⟩ := so_dep hso ((hsame (k + t) (by omega)).trans hx)
                rw [Nat.add_mul] at a0 a1 a2 b0 b1 b2
                have NQ := fun W => neDp y2 x2 W
                have i3 : (j : Int) < (r : Int) := by omega
                have l6 : (j : Int) ≤ 4000000 := by have := HN.out; have := HR.out; omega
                have l7 : (0 : Int) ≤ (j : Int) := by omega
                have l8 : (t : Int) < (r : Int) := by omega
                have l9 : (0 : Int) ≤ (t : Int) := by omega
                have l10 : (k' : Int) < (n : Int) := by have := HR.out; omega
                have l11 : (0 : Int) ≤ (k' : Int) := by omega
                have l12 : (k' : Int) ≤ 4000000 := by have := HN.out; omega
                have ew3 : IntKind.i64.wrap ((j : Int) - 1) = (t : Int) := by rw [IntKind.wrap_i64]; omega
                have ew4 : wrap64 ((j : Int) - 1) = (t : Int) := by unfold wrap64; omega
                have f0 := frozen_of_so hso (k' * 3)
                have f1 := frozen_of_so hso (k' * 3 + 1)
                have f2 := frozen_of_so hso (k' * 3 + 2)
                obtain ⟨z, hz⟩ : ∃ z, C[k']? = some z := ⟨_, List.getElem?_eq_getElem (by rw [hcl]; have := HR.out; omega)⟩
                obtain ⟨z0, z1, z2⟩ := so_dep hso hz
                have HNX := Lib.hid (cpD_next (ys := ys) (i := k + j) hy)
                have hxy : (ys[k + j - 1]? = some y2) ↔ y2 = x2 := by
                  rw [show k + j - 1 = k + t by omega, hx]
                  exact ⟨fun h => (Option.some.inj h).symm, fun h => by rw [h]⟩
                have HXY2 := Lib.hid hxy
                have HY2 := Lib.hid hy
                have HT2 := Lib.hid ht
                have HSO2 := Lib.hid hso
                have HOUT := Lib.hid hout
                have HCL := Lib.hid hcl
                have HTK := Lib.hid htk
                have HKL := Lib.hid hkl
                have HKK := Lib.hid hkk
                have HSAME := Lib.hid hsame
                have HJL := Lib.hid hlt
                have HJ1 := Lib.hid hj1
                have HST := Lib.hid (show ∀ q, SO seD base ((wx.drewN q).setCells g (k' * 3) (dpC y2)) (.slice (some ⟨g, 0, none⟩) n c) n (cellsE dpC (C.set k' y2)) from fun q => by
                  have h1 : SO seD base (wx.drewN q) (.slice (some ⟨g, 0, none⟩) n c) n (cellsE dpC C) := hso.below ⟨rfl, rfl, rfl, Nat.le_refl _, fun _ _ => rfl⟩
                  have h2 := so_storeE h1 (k' * 3) (dpC_one y2) (by rw [cellsE_len dpC_len, hcl, dpC_len]; have := HR.out; omega)
                  rw [cellsE_set (by rw [hcl]; have := HR.out; omega)] at h2
                  exact h2)
                have HSTO := Lib.hid (show ∀ q, Out (fun i => i = g) w ((wx.drewN q).setCells g (k' * 3) (dpC y2)) from fun q => Out.setCells (F := fun i => i = g) (hout.then (show Out (fun i => i = g) wx (wx.drewN q) from ⟨rfl, rfl, rfl, Nat.le_refl _, fun _ _ _ => rfl⟩)) (.inl rfl) _ _)
                obtain ⟨yf2, yt2, yk2⟩ := y2
                obtain ⟨xf2, xt2, xk2⟩ := x2
                dsimp only at a0 a1 a2 b0 b1 b2 NQ
                clear hy hx hso hout hcl htk hkl hkk hsame hlt hj hj1 hz ht hxy
                by_cases he : (⟨yf2, yt2, yk2⟩ : Dp) = ⟨xf2, xt2, xk2⟩
                · rw [show decide ((⟨yf2, yt2, yk2⟩ : Dp) = ⟨xf2, xt2, xk2⟩) = true by simpa using he] at NQ
                  have HC := Lib.hid (show cpD ys (k + (j + 1)) = cpD ys (k + j) by rw [← Nat.add_assoc, HNX.out, if_pos ⟨by have := HJ1.out; omega, HXY2.out.2 he⟩])
                  clear he z0 z1 z2 f0 f1 f2
                  go_upto_region 11 with fail
                  go_quiet (fail)
                  go_wp2
                  go_roundw
                  case rel => exact ⟨k', j + 1, C, by first | rfl | go_num, by go_num, by omega, HJL.out, HCL.out, by rw [HC.out]; exact HTK.out, by rw [HC.out]; exact HKL.out, by have := HKK.out; omega, fun i hi => HSAME.out i (by omega), HSO2.out.below ⟨rfl, rfl, rfl, Nat.le_refl _, fun _ _ => rfl⟩, HOUT.out.then ⟨rfl, rfl, rfl, Nat.le_refl _, fun _ _ _ => rfl⟩⟩
                  case measure => have := HJL.out; simp [intOf]; omega
                · rw [show decide ((⟨yf2, yt2, yk2⟩ : Dp) = ⟨xf2, xt2, xk2⟩) = false by simpa using he] at NQ
                  have HC := Lib.hid (show cpD ys (k + (j + 1)) = cpD ys (k + j) ++ [⟨yf2, yt2, yk2⟩] by rw [← Nat.add_assoc, HNX.out, if_neg (fun h => he (HXY2.out.1 h.2))])
                  clear he
                  go_upto_region 11 with fail
                  go_quiet (fail)
                  go_wp2
                  go_roundw
                  case rel =>
                    refine ⟨k' + 1, j + 1, C.set k' ⟨yf2, yt2, yk2⟩, by go_num, by go_num, by omega, HJL.out, by rw [List.length_set]; exact HCL.out, ?_, by rw [HC.out, List.length_append, HKL.out]; rfl, by have := HKK.out; omega, fun i hi => ?_, HST.out _, HSTO.out _⟩
                    · rw [HC.out, ← HTK.out, List.take_add_one, List.getElem?_set_self (by rw [HCL.out]; have := HKK.out; have := HR.out; have := HJL.out; omega), List.take_set_of_le (Nat.le_refl _)]
                      rfl
                    · rw [List.getElem?_set_ne (by have := HKK.out; omega)]
                      exact HSAME.out i (by omega)
                  case measure => have := HJL.out; simp [intOf]; omega
              · obtain rfl : j = r := by omega
                have i3 : ¬ (j : Int) < (j : Int) := by omega
                have hkn : k' < n := by have := HR.out; omega
                obtain ⟨w9, hclr, hso9, o9⟩ := run_clearD hso hcl hkn (c - k')
                have RF : ∀ W', (Instr.slice 45 (.slice (some ⟨g, 0, none⟩) n c) (some (.int .i64 (k' : Int))) none none).run Tryz.prog W' = .ok (.slice (some ⟨g, k' * 3, none⟩) (n - k') (c - k')) W' := fun W' => by
                  have := run_fromE seD_ok W' (some ⟨g, 0, none⟩) n c k' (Nat.le_of_lt hkn) HCC.out
                  rw [if_neg (by have := HCC.out; omega)] at this
                  rw [show (some (⟨g, k' * 3, none⟩ : Addr)) = (some (⟨g, 0, none⟩ : Addr)).map (·.add (k' * seD.s)) by simp [Addr.add, seD]]
                  exact this
                have RU : ∀ W', (Instr.slice 45 (.slice (some ⟨g, 0, none⟩) n c) none (some (.int .i64 (k' : Int))) none).run Tryz.prog W' = .ok (.slice (some ⟨g, 0, none⟩) k' c) W' := fun W' => run_uptoE seD_ok W' (some ⟨g, 0, none⟩) n c k' (by have := HCC.out; omega)
                have HE := Lib.hid (show C.take k' = D by rw [htk, ← HR.out, HD.out])
                have HEL := Lib.hid (show D.length = k' by rw [← HD.out, HR.out]; exact hkl)
                have hc0 := hclr 0
                have HS9 := Lib.hid hso9
                have HO9 := Lib.hid (hout.then o9)
                clear hclr hso9 o9 hj1 hj hcl htk hkl hkk hsame hso hout hlt hkn
                go_wp2
                go_ret
                refine ⟨_, rfl, ?_, HO9.out.below (by have := HB.out; have := HLT.out; omega) fun i hi e => by have := HB.out; omega⟩
                rw [HEL.out, ← HE.out]
                exact HS9.out
          · rw [show decide ((⟨yf, yt, yk⟩ : Dp) = ⟨xf, xt, xk⟩) = false by simpa using he] at EQ
            have HT := Lib.hid (show ∀ j y, 0 < j → j < k + 1 → ys[j]? = some y → ys[j - 1]? ≠ some y from fun j z h1 h2 h3 => by
              rcases Nat.lt_or_ge j k with h4 | h4
              · exact HNE.out j z h1 h4 h3
              · have : j = k := by omega
                subst this
                rw [HY.out] at h3
                cases h3
                exact fun h5 => he (HXY.out.1 h5))
            clear he
            go_upto_region 6 with fail
            go_quiet (fail)
            go_wp2
            go_roundw
            case rel => exact ⟨k + 1, by go_num, by omega, HLT2.out, HT.out, q + nq, by rw [← HWQ.out]; unfold World.drewN; simp [Nat.add_assoc]⟩
            case measure => have := HLT2.out; simp [intOf]; omega
        · obtain rfl : k = n := by omega
          have i2 : ¬ (k : Int) < (k : Int) := by omega
          have HE := Lib.hid (show D = ys by
            rw [← HD.out, cpD_all k (by rw [HNN.out]; exact Nat.le_refl _) hne, ← HNN.out, List.take_length])
          have HSO := Lib.hid hso
          clear hk1 hk hne hso hlt
          go_wp2
          go_ret
          exact ⟨_, rfl, by rw [HE.out, HNN.out]; exact HSO.out, BW.out.mono (by have := HB.out; have := HLT.out; omega)⟩
end Go.Proofs.YtnpeankmmojebaaGreatDoor

/- append to a list that the call made, up to what memory holds. -/
namespace Go.Proofs.YtnpeankmmojebaaGreatDoor
set_option maxRecDepth 100000
set_option maxRecDepth 100000
open Go.RowKit

section
variable {E : SEl} {base n : Nat} {w w' : World} {v : Value} {vs : List Value}
/-- append, whatever stands behind it. -/
theorem wp_soW (hE : E.Ok) {o : Oper} {a : Act} {K : Act → World → Prop} {Q : Exit → Act → World → Prop} (s x : Operand)
    (ho : o.op = .call { callee := .builtin .append, args := #[s, x], argTypes := #[E.t, E.t] })
    (v : Value) (hs : a.eval s = v) (hown : SO E base w v n vs) (A : Option Addr) (m c : Nat) (us : List Value) (hx : a.eval x = .slice A m c) (hr : SB w A (E.s * m) us)
    (hsz : (n + m) * E.b ≤ 140737488355328) (h63 : n + m ≤ maxLen) (hbase : base ≤ w.heap.size)
    (h : ∀ v' w', SO E base w' v' (n + m) (vs ++ us) → Below base w w' → K (a.put o.dst v') w') : o.wp Tryz.prog a w K Q := by
  obtain ⟨i0, hi, hz0, hz1, hz2⟩ := info_parts hE.info
  have hrow : ∀ k, v.ownBlock = some k → base ≤ k := fun k hk => (hown.own.lt k hk).1
  have hs0 := hE.s0
  rcases A with _ | ad
  · have hm : m = 0 := by
      rcases Nat.eq_zero_or_pos m with h0 | h0
      · exact h0
      · obtain ⟨g, q, e, -⟩ := hr.cell (Nat.mul_pos hs0 h0)
        cases e
    subst hm
    have hy : us = [] := List.eq_nil_of_length_eq_zero (by rw [hr.len]; simp)
    subst hy
    have hrun := run_append_nothing w E.t o.type i0 hE.und hi hown.own c
    unfold Oper.wp
    simp [execOp, ho, resolve, invoke, builtin, hs, hx, hrun, Result.andThen]
    exact h v w (by simpa using hown) (Below.refl _ _)
  · have hcell : ∀ j u, us[j]? = some u → w.cell? (ad.add j) = some u := by
      rcases Nat.eq_zero_or_pos m with h0 | h0
      · intro j u hj
        have hy : us = [] := List.eq_nil_of_length_eq_zero (by rw [hr.len, h0]; simp)
        subst hy
        simp at hj
      · obtain ⟨g, q, e, hcell⟩ := hr.addr (Nat.mul_pos hs0 h0)
        cases e
        exact hcell
    refine wp_append_own w s x E.t ho base E.e i0 E.z E.s E.b hE.und hi hz0 hz1 hz2 hE.zc hs0 v n vs hs hown.own ad m c us hx (by rw [hr.len, Nat.mul_comm]) hcell hr.one h63 hsz hbase ?_
    · intro v' w' hown' hg _
      exact h v' w' ⟨hown', by rw [List.length_append, hown.len, hr.len, ← Nat.mul_add], fun u hu => by
        rcases List.mem_append.1 hu with h1 | h1
        · exact hown.one u h1
        · exact hr.one u h1⟩ (below_of_grown8 (w1 := w) hg hbase hrow)
/-- append in a list of operations. -/
theorem so_appendW (hE : E.Ok) {ops : Array Oper} {rest : List Oper} {o : Oper} {a : Act} {Q : Exit → Act → World → Prop} (hgd : o.guard = none) (s x : Operand)
    (ho : o.op = .call { callee := .builtin .append, args := #[s, x], argTypes := #[E.t, E.t] })
    (v : Value) (hs : a.eval s = v) (hown : SO E base w v n vs) (A : Option Addr) (m c : Nat) (us : List Value) (hx : a.eval x = .slice A m c) (hr : SB w A (E.s * m) us)
    (hsz : (n + m) * E.b ≤ 140737488355328) (h63 : n + m ≤ maxLen) (hbase : base ≤ w.heap.size)
    (h : ∀ v' w', SO E base w' v' (n + m) (vs ++ us) → Below base w w' → wpList Tryz.prog ops Q rest (a.put o.dst v') w') : wpList Tryz.prog ops Q (o :: rest) a w :=
  wpList_plain hgd fun _ hK => wp_soW hE s x ho v hs hown A m c us hx hr hsz h63 hbase fun v' w' h1 h2 => hK _ _ (h v' w' h1 h2)
end
section
variable {E : SEl} {base n : Nat} {w : World} {v : Value} {vs : List Value}
/-- append of one element, and where the list then lies. -/
theorem so_appendL (hE : E.Ok) {ops : Array Oper} {rest : List Oper} {o : Oper} {a : Act} {Q : Exit → Act → World → Prop} (hgd : o.guard = none) (s x : Operand)
    (ho : o.op = .call { callee := .builtin .append, args := #[s, x], argTypes := #[E.t, E.t] })
    (v : Value) (hs : a.eval s = v) (hown : SO E base w v n vs) (b c : Nat) (us : List Value) (hx : a.eval x = .slice (some ⟨b, 0, none⟩) 1 c) (hr : SB w (some ⟨b, 0, none⟩) (E.s * 1) us)
    (hsz : (n + 1) * E.b ≤ 140737488355328) (h63 : n + 1 ≤ maxLen) (hbase : base ≤ w.heap.size)
    (h : ∀ g cap w', SO E base w' (.slice (some ⟨g, 0, none⟩) (n + 1) cap) (n + 1) (vs ++ us) → w.grownBy w' v.ownBlock → (v.ownBlock = some g ∨ g = w.heap.size) → wpList Tryz.prog ops Q rest (a.put o.dst (.slice (some ⟨g, 0, none⟩) (n + 1) cap)) w') : wpList Tryz.prog ops Q (o :: rest) a w := by
  obtain ⟨i0, hi, hz0, hz1, hz2⟩ := info_parts hE.info
  have hs0 := hE.s0
  refine wpList_append_lies (P := Tryz.prog) w hgd s x E.t ho base E.e i0 E.z E.s E.b hE.und hi hz0 hz1 hz2 hE.zc hs0 v n vs hs hown.own ⟨b, 0, none⟩ 1 c us hx (by rw [hr.len, Nat.mul_comm]) ?_ hr.one (by omega) h63 hsz hbase _ rfl ?_
  · obtain ⟨g, q, e, hcell⟩ := hr.addr (Nat.mul_pos hs0 (by omega))
    cases e
    exact hcell
  · intro g cap w' hown' hg hl _
    exact h g cap w' ⟨hown', by rw [List.length_append, hown.len, hr.len, ← Nat.mul_add], fun u hu => by
      rcases List.mem_append.1 hu with h1 | h1
      · exact hown.one u h1
      · exact hr.one u h1⟩ hg hl
end
section
variable {E : SEl} {base n : Nat} {w : World} {v : Value} {vs : List Value}
/-- The same as a step of a region that draws its order. -/
theorem so_stepL (hE : E.Ok) {ops : Array Oper} {o : Oper} {a : Act} {K : Act → World → Prop} {Q : Exit → Act → World → Prop} {Z : Prop} (hgd : o.guard = none) (s x : Operand)
    (ho : o.op = .call { callee := .builtin .append, args := #[s, x], argTypes := #[E.t, E.t] })
    (v : Value) (hs : a.eval s = v) (hown : SO E base w v n vs) (b c : Nat) (us : List Value) (hx : a.eval x = .slice (some ⟨b, 0, none⟩) 1 c) (hr : SB w (some ⟨b, 0, none⟩) (E.s * 1) us)
    (hsz : (n + 1) * E.b ≤ 140737488355328) (h63 : n + 1 ≤ maxLen) (hbase : base ≤ w.heap.size)
    (h : ∀ g cap w', SO E base w' (.slice (some ⟨g, 0, none⟩) (n + 1) cap) (n + 1) (vs ++ us) → w.grownBy w' v.ownBlock → (v.ownBlock = some g ∨ g = w.heap.size) → K (a.put o.dst (.slice (some ⟨g, 0, none⟩) (n + 1) cap)) w') : if Region.wanted o (yielded ops a.tmps) = true then Oper.wp Tryz.prog o a w K Q else Z := by
  obtain ⟨i0, hi, hz0, hz1, hz2⟩ := info_parts hE.info
  have hs0 := hE.s0
  refine step_append_lies (P := Tryz.prog) w hgd s x E.t ho base E.e i0 E.z E.s E.b hE.und hi hz0 hz1 hz2 hE.zc hs0 v n vs hs hown.own ⟨b, 0, none⟩ 1 c us hx (by rw [hr.len, Nat.mul_comm]) ?_ hr.one (by omega) h63 hsz hbase _ rfl ?_
  · obtain ⟨g, q, e, hcell⟩ := hr.addr (Nat.mul_pos hs0 (by omega))
    cases e
    exact hcell
  · intro g cap w' hown' hg hl _
    exact h g cap w' ⟨hown', by rw [List.length_append, hown.len, hr.len, ← Nat.mul_add], fun u hu => by
      rcases List.mem_append.1 hu with h1 | h1
      · exact hown.one u h1
      · exact hr.one u h1⟩ hg hl
end
end Go.Proofs.YtnpeankmmojebaaGreatDoor
