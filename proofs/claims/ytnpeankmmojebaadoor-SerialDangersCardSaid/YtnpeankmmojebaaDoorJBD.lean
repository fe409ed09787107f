import Derived.Test.YtnpeankmmojebaaDoorJBC
/- Layer 11: a walk's readyFrom. -/
set_option linter.unusedVariables false
namespace Go.Proofs.YtnpeankmmojebaaDoor
set_option maxRecDepth 100000
set_option maxRecDepth 100000
open Go.RowKit

section
variable {w : World} {gw gb gt gr b2 n : Nat} {vl : Value} {L : List Nat} {Wf : Nat → Nat} {R : Nat → Bool}
set_option maxHeartbeats 8000000 in
theorem wsReady (h : WkM w gw gb gt gr b2 n vl L Wf R) (hT : TzAt w) (hn : n ≤ 4096) {r : Nat} (hr : r ≤ n) :
    Calls Tryd.prog 35 #[.pointer (some ⟨gw, 0, none⟩), .int .i64 (r : Nat)] w fun e w' => w' = w ∧ ∃ o, NxtIs R n r o ∧ e = .returned (.int .i64 o) := by
  obtain ⟨ws, k1, k2⟩ := h.ready
  have c3 := h.cells.2.2.2
  obtain ⟨m, hm⟩ : ∃ m, n / 64 + 1 = m := ⟨_, rfl⟩
  rw [hm] at c3 k1 k2
  obtain ⟨q, hq⟩ : ∃ q, r / 64 = q := ⟨_, rfl⟩
  obtain ⟨b, hb⟩ : ∃ b, r % 64 = b := ⟨_, rfl⟩
  have q64 : (q : Int) ≤ 64 := by omega
  have eq : (r : Int) / 64 = (q : Int) := by omega
  have eb : (r : Int) % 64 = (b : Int) := by omega
  have b64 : (b : Int) < 64 := by omega
  have HM := Lib.hid (show m ≤ 65 ∧ n < 64 * m ∧ q < m by omega)
  have HQ := Lib.hid (show 64 * q + b = r ∧ b < 64 by omega)
  have HK := Lib.hid k1
  have HS := Lib.hid k2
  have HT := Lib.hid hT
  have HP := Lib.hid h.top
  clear h hT hn hr hm hq hb k1 k2
  go_enter Tryd.func35, Tryd.ntmps35
  go_upto_region 3 with fail
  go_loopw [5, 6] (fun mk i wr => ∃ j M : Nat, i = .int .i64 (j : Nat) ∧ mk = .int .u64 (M : Nat) ∧ j ≤ m ∧ M < 18446744073709551616 ∧ (∀ b, b < 64 → M.testBit b = decide (r ≤ 64 * j + b)) ∧ (∀ v, r ≤ v → v < 64 * j → R v = false) ∧ q ≤ j ∧ wr = w) (fun _ i _ => m - (intOf i).toNat)
  case atStart =>
    refine ⟨q, 18446744073709551615 * 2 ^ b % 18446744073709551616, rfl, ?_, Nat.le_of_lt HM.out.2.2, Nat.mod_lt _ (by omega), fun c hc => ?_, fun v h1 h2 => ?_, Nat.le_refl _, rfl⟩
    · rw [IntKind.wrap_u64, Int.natCast_emod, Int.natCast_mul, Int.natCast_pow]; rfl
    · rw [mask_at HQ.out.2 hc]
      have := HQ.out.1
      by_cases e : b ≤ c
      · rw [decide_eq_true e, decide_eq_true (by omega)]
      · rw [decide_eq_false e, decide_eq_false (by omega)]
    · have := HQ.out; omega
  case round =>
    rename World => wr
    obtain ⟨j, M, rfl, rfl, hj, hM, hb, hR, hqj, rfl⟩ := hrel
    by_cases hlt : j < m
    · obtain ⟨x, hx⟩ : ∃ x, ws[j]? = some x := ⟨_, List.getElem?_eq_getElem (by rw [HK.out.1]; exact hlt)⟩
      have cx := HS.out.uAt hx
      obtain ⟨x1, x2⟩ := HK.out.2 j x hx
      have i1 : (j : Int) < (m : Int) := by omega
      have l1 : (j : Int) ≤ 65 := by have := HM.out.1; omega
      obtain ⟨s, hs⟩ : ∃ s, x &&& M = s := ⟨_, rfl⟩
      have hsl : s < 18446744073709551616 := by rw [← hs]; exact Nat.and_lt_two_pow (n := 64) _ hM
      have ea : bits .and .u64 (x : Int) (M : Int) = (s : Int) := by rw [u64_and_nat _ _ x1 hM, hs]
      have hsb : ∀ b, b < 64 → s.testBit b = (R (64 * j + b) && decide (r ≤ 64 * j + b)) := fun b h64 => by rw [← hs, Nat.testBit_and, x2 b h64, hb b h64]
      by_cases h0 : s = 0
      · subst h0
        have HN := Lib.hid (show ∀ v, r ≤ v → v < 64 * (j + 1) → R v = false from fun v h1 h2 => by
          by_cases h3 : v < 64 * j
          · exact hR v h1 h3
          · have := hsb (v - 64 * j) (by omega)
            rw [Nat.zero_testBit, show 64 * j + (v - 64 * j) = v by omega, decide_eq_true h1, Bool.and_true] at this
            exact this.symm)
        have HJ := Lib.hid (And.intro hlt hqj)
        clear hj hM hb hR hqj hx x1 x2 hs hsl hsb hlt
        go_wp2
        go_roundw
        case rel => exact ⟨j + 1, 18446744073709551615, by go_num, rfl, HJ.out.1, by omega, fun b hb => by
          have e : r ≤ 64 * (j + 1) + b := by have := HQ.out; have := HJ.out.2; omega
          rw [decide_eq_true e, show (18446744073709551615 : Nat) = 2 ^ 64 - 1 by decide, Nat.testBit_two_pow_sub_one]
          simpa using hb, HN.out, Nat.le_succ_of_le HJ.out.2, by first | rfl | trivial⟩
        case measure => have := HJ.out.1; simp [intOf]; omega
      · have e0 : ((s : Int) == 0) = false := by simpa using h0
        have CT := Lib.hid (wsTz HT.out h0 hsl)
        have HN := Lib.hid (show ∀ k, k < 64 → s.testBit k = true → (∀ i, i < k → s.testBit i = false) → NxtIs R n r ((j : Int) * 64 + (k : Int)) from fun k h1 h2 h3 => by
          rw [hsb k h1, Bool.and_eq_true, decide_eq_true_eq] at h2
          refine .inr ⟨64 * j + k, by omega, h2.2, ?_, h2.1, fun u h4 h5 => ?_⟩
          · refine Nat.lt_of_not_le fun h6 => ?_
            have := HP.out _ h6
            rw [h2.1] at this; cases this
          · by_cases h6 : u < 64 * j
            · exact hR u h4 h6
            · have := hsb (u - 64 * j) (by omega)
              rw [h3 _ (by omega), show 64 * j + (u - 64 * j) = u by omega, decide_eq_true h4, Bool.and_true] at this
              exact this.symm)
        clear hj hM hb hR hqj hx x1 x2 hs hsl hsb hlt
        go_wp2_with (go_at_call 55; go_loud (refine CT.out.mono ?_; rintro e w1 ⟨rfl, k, hk1, hk2, hk3, rfl⟩; have HN2 := Lib.hid (HN.out k hk1 hk2 hk3); have k64 : (k : Int) < 64 := (by omega); clear hk1 hk2 hk3))
        go_ret
        exact ⟨rfl, _, HN2.out, rfl⟩
    · obtain rfl : j = m := by omega
      have i1 : ¬ (j : Int) < (j : Int) := by omega
      have HN := Lib.hid (show NxtIs R n r (-1) from .inl ⟨rfl, fun v h1 h2 => hR v h1 (by have := HM.out; omega)⟩)
      clear hj hlt hM hb hR hqj
      go_wp2
      go_ret
      exact ⟨rfl, _, HN.out, rfl⟩
end
end Go.Proofs.YtnpeankmmojebaaDoor

/- Layer 11: a walk's lay. -/
namespace Go.Proofs.YtnpeankmmojebaaDoor
set_option maxRecDepth 100000
set_option maxRecDepth 100000
open Go.RowKit

theorem own_new11 {vl : Value} {g c l : Nat} {W : World} (h : vl.ownBlock = some g ∨ g = W.heap.size) (k : Nat) (hk : (Value.slice (some ⟨g, 0, none⟩) l c).ownBlock = some k) : vl.ownBlock = some k ∨ W.heap.size ≤ k := by
  have e : g = k := by simpa [Value.ownBlock] using hk
  rcases h with q | q
  · exact .inl (e ▸ q)
  · exact .inr (by omega)
theorem SB.outX11 {F : Nat → Prop} {w w' : World} {A : Option Addr} {m : Nat} {vs : List Value} (h : SB w A m vs) (o : Out F w w') (hF : ∀ ad, A = some ad → ¬ F ad.block) : SB w' A m vs :=
  ⟨h.len, h.one, fun h0 => by
    obtain ⟨g, q, rfl, hc⟩ := h.cell h0
    exact ⟨g, q, rfl, fun j u hj => o.cell (hc j u hj) (hF ⟨g, q, none⟩ rfl)⟩⟩
/-- A list of outs, where it lies. -/
theorem NetW.outAt {W : World} {gb b2 n x : Nat} {ns : List Int} {E : Eg} (h : NetW W gb b2 n ns E) (hx : x < n) : ∃ go A c, W.cell? ⟨gb, 1, none⟩ = some (.slice (some ⟨go, 0, none⟩) n n) ∧ W.cell? ⟨go, x, none⟩ = some (.slice A (outsP E x).length c) ∧ SB W A (outsP E x).length (numN (outsP E x)) ∧ ∀ ad, A = some ad → ad.block < b2 := by
  obtain ⟨go, gi, base, An, cn, vo, vi, hB, hbb, hown⟩ := h
  obtain ⟨v, hv⟩ : ∃ v, vo[x]? = some v := ⟨_, List.getElem?_eq_getElem (by rw [hB.vol]; exact hx)⟩
  obtain ⟨A, c, rfl, hs, -⟩ := (hB.outL hv (LOf_at hx)).form
  refine ⟨go, A, c, hB.cells.2.1, hB.outC hv, ?_, fun ad e => ?_⟩
  · have e : seI.s * (outsP E x).length = (outsP E x).length := Nat.one_mul _
    rwa [e] at hs
  · subst e
    exact hown x _ ad.block (by rw [List.getElem?_append_left (List.getElem?_eq_some_iff.1 hv).1]; exact hv) rfl
section
variable {w : World} {gw gb b2 n x : Nat} {ns : List Int} {E : Eg} {L : List Nat}
set_option maxHeartbeats 16000000 in
theorem wsLay (h : WkAt w gw gb b2 n ns E L) (hE : EdOk E n) (hl : E.length ≤ 8192) (hn : n ≤ 4096) (hL : LayP E n L) (hx : x < n) (hr : rdyB E L x = true) :
    Calls Tryd.prog 36 #[.pointer (some ⟨gw, 0, none⟩), .int .i64 (x : Nat)] w fun e w' => e = .returned (.tuple #[]) ∧ WkAt w' gw gb b2 n ns E (L ++ [x]) ∧ Out (fun k => b2 ≤ k) w w' := by
  obtain ⟨gt, gr, vl, hM, hN⟩ := h
  have hxL := (rdyB_is.1 hr).1
  have c1 := hM.cells.2.1
  have hLl : L.length ≤ n := hL.le
  have hb2 : b2 ≤ w.heap.size := by have := hM.glt.1; have := hM.lo; omega
  obtain ⟨W1, hW1⟩ : ∃ W, w.alloc (.cells #[.int .i64 (x : Nat)] 3) = W := ⟨_, rfl⟩
  have b1 : Below w.heap.size w W1 := hW1 ▸ alloc_below11 w _
  have HW1 := Lib.hid hW1
  have B1 := Lib.hid b1
  have M1 := Lib.hid (hM.below b1)
  have c1' := keep_below c1 b1
  have SBA := Lib.hid (show SB W1 (some ⟨w.heap.size, 0, none⟩) (seI.s * 1) [.int .i64 (x : Nat)] from hW1 ▸ sb_int11 w x)
  have HX := Lib.hid (And.intro hx hxL)
  have HR := Lib.hid hr
  have HE := Lib.hid hE
  have HL := Lib.hid hL
  have HLl := Lib.hid hLl
  have HN := Lib.hid hn
  have HEl := Lib.hid hl
  have HB2 := Lib.hid hb2
  have NW := Lib.hid hN
  have hgw := Lib.hid hM.glt.1
  clear hE hl hn hL hx hr hM hN hxL hLl hb2 hW1 b1
  go_enter Tryd.func36, Tryd.ntmps36
  go_upto_region 1 with (first
    | (at_builtin; rw [HW1.out]; go_loud (refine so_appendL seI_ok (by rfl) (.tmp 10) (.tmp 12) (by rfl) vl (by rfl) M1.out.laid w.heap.size 1 [.int .i64 (x : Nat)] (by rfl) SBA.out (by have := HLl.out; have := HN.out; simp only [seI]; omega) (by have := HLl.out; have := HN.out; simp only [maxLen]; omega) (by have := HB2.out; have := B1.out.size; omega) ?_; intro g4 c4 w4 o4 hg4 hl4; obtain ⟨d1, f1, hM2, ho2⟩ := M1.out.setLaid (W' := w4) (vl2 := .slice (some ⟨g4, 0, none⟩) (L.length + 1) c4) (L2 := L ++ [x]) (by rw [numN_app, List.length_append]; exact o4) ((Out.refl _ _).grown hg4 fun k e => .inl e) (own_new11 hl4); have M2 := Lib.hid hM2; have O2 := Lib.hid (((Out.of_below B1.out (fun k => b2 ≤ k)).mono fun i _ e => e).then ho2); clear o4 hg4 hl4 hM2 ho2))
    | fail)
  go_upto_region 2 with (go_at_call 31; go_loud (refine (wsFlip M2.out HN.out HX.out.1).mono ?_; rintro e w6 ⟨rfl, m6, o6⟩; rw [rj_zero HX.out.1 HR.out] at m6; have M6 := Lib.hid m6; have O6 := Lib.hid (O2.out.then (o6.mono fun i _ q => by have := M2.out.glt.2.2.1; omega)); clear m6 o6))
  have x0 := M6.out.cells.1
  obtain ⟨go, OA, oc, x1, hoa, hsb, hob⟩ := (NW.out.out O6.out).outAt HX.out.1
  have xn : (x : Int) < (n : Int) := by have := HX.out.1; omega
  have n4 : (n : Int) ≤ 4096 := by have := HN.out; omega
  obtain ⟨us, hus⟩ : ∃ us, outsP E x = us := ⟨_, rfl⟩
  obtain ⟨k, hk⟩ : ∃ k, us.length = k := ⟨_, rfl⟩
  rw [hus, hk] at hoa hsb
  have HUS := Lib.hid hus
  have HK := Lib.hid hk
  have HK2 := Lib.hid (show k ≤ 8192 by rw [← hk, ← hus]; exact Nat.le_trans (outsP_len _ _) HEl.out)
  have SBO := Lib.hid hsb
  have HOB := Lib.hid hob
  clear hus hk hsb hob
  go_upto_region 3 with fail
  clear x0 x1 hoa
  go_loopw [30] (fun i wr => ∃ j : Nat, i = .int .i64 (j : Nat) ∧ j ≤ k ∧ WkM wr gw gb gt gr b2 n (.slice (some ⟨g4, 0, none⟩) (L.length + 1) c4) (L ++ [x]) (wjP E L x j) (rjP E n L x j) ∧ Out (fun k => b2 ≤ k) w6 wr) (fun i _ => k - (intOf i).toNat)
  case atStart => exact ⟨0, rfl, Nat.zero_le _, by rw [wj_zero]; exact M6.out, Out.refl _ _⟩
  case round =>
    rename World => wr
    obtain ⟨j, rfl, hj, hm, ho⟩ := hrel
    by_cases hlt : j < k
    · obtain ⟨tv, hto⟩ : ∃ tv, us[j]? = some tv := ⟨_, List.getElem?_eq_getElem (by rw [HK.out]; exact hlt)⟩
      have hto2 : (outsP E x)[j]? = some tv := HUS.out ▸ hto
      obtain ⟨g, o, rfl, u0⟩ := (SBO.out.outX11 ho fun ad e q => by have := HOB.out ad e; have q : b2 ≤ ad.block := q; omega).num (l := us.map fun (k : Nat) => (k : Int)) (by rw [List.getElem?_map, hto]; rfl)
      obtain ⟨hs1, hs2⟩ := wj_step (E := E) HX.out.2 hto2
      obtain ⟨hf1, hf2⟩ := out_fresh HE.out HL.out HX.out.2 hto2
      have c2 := hm.cells.2.2.1
      obtain ⟨t0, tf⟩ := hm.wait hf1
      obtain ⟨y, hy⟩ : ∃ y, wjP E L x (j + 1) tv = y := ⟨_, rfl⟩
      have hyl : y ≤ 8192 := by
        have h1 : wtnW E L tv ≤ (insP E tv).length := List.length_filter_le _ _
        have h2 := insP_len E tv
        have h3 := HEl.out
        have h4 : wjP E L x (j + 1) tv ≤ wtnW E L tv := Nat.sub_le _ _
        omega
      rw [hs1, hy] at t0
      have hset := hm.setWait hf1 y
      rw [hy] at hs2
      rw [hs2] at hset
      have oset : Out (fun k => b2 ≤ k) wr (wr.setCell ⟨gt, tv, none⟩ (.int .i64 (y : Nat))) := Out.setCell (F := fun k => b2 ≤ k) (Out.refl _ wr) (p := ⟨gt, tv, none⟩) (.inl hm.glt.2.1.1) _
      have i1 : (j : Int) < (k : Int) := by omega
      have l1 : (j : Int) ≤ 8192 := by have := HK2.out; omega
      have ton : (tv : Int) < (n : Int) := by omega
      have yl : (y : Int) ≤ 8192 := by omega
      have HSET := Lib.hid hset
      have OSET := Lib.hid (ho.then oset)
      have c2' := hset.cells.2.2.1
      have t0' := (hset.wait hf1).1
      rw [hy] at t0'
      have HJ := Lib.hid hlt
      have HF := Lib.hid (And.intro hf1 hto2)
      have HY := Lib.hid hy
      clear hj hm ho hto hto2 hs1 hs2 hf1 hf2 hset oset hy hlt
      obtain ⟨W2, hW2⟩ : ∃ W, wr.setCell ⟨gt, tv, none⟩ (.int .i64 (y : Nat)) = W := ⟨_, rfl⟩
      rw [hW2] at HSET OSET c2' t0'
      have HW2 := Lib.hid hW2
      clear hW2
      go_upto_region 6 with fail
      rw [HW2.out]
      clear u0 c2 t0 tf
      by_cases hy0 : y = 0
      · subst hy0
        go_wp2_with (go_at_call 31; go_loud (refine (wsFlip HSET.out HN.out HF.out.1).mono ?_; rintro e w8 ⟨rfl, m8, o8⟩; rw [rj_flip HE.out HL.out HX.out.2 HF.out.2 HY.out] at m8; have M8 := Lib.hid m8; have O8 := Lib.hid (OSET.out.then (o8.mono fun i _ q => by have := HSET.out.glt.2.2.1; omega)); clear m8 o8))
        go_roundw
        case rel => exact ⟨j + 1, by go_num, HJ.out, M8.out, O8.out⟩
        case measure => have := HJ.out; simp [intOf]; omega
      · have y0 : ((y : Int) == 0) = false := by simpa using hy0
        have HK3 := Lib.hid (rj_keep (E := E) (n := n) HX.out.2 HF.out.2 (by rw [HY.out]; exact hy0))
        go_wp2
        go_roundw
        case rel => exact ⟨j + 1, by go_num, HJ.out, by rw [← HK3.out]; exact HSET.out, OSET.out⟩
        case measure => have := HJ.out; simp [intOf]; omega
    · obtain rfl : j = k := by omega
      have i1 : ¬ (j : Int) < (j : Int) := by omega
      have HM := Lib.hid hm
      have HO := Lib.hid (O6.out.then ho)
      have HA := Lib.hid (wj_all (E := E) HX.out.2)
      have HB := Lib.hid (rj_all (E := E) (n := n) HX.out.2)
      clear hj hlt hm ho
      go_wp2
      go_end0
      refine ⟨rfl, ⟨gt, gr, .slice (some ⟨g4, 0, none⟩) (L.length + 1) c4, ?_, NW.out.out HO.out⟩, HO.out⟩
      rw [← HA.out, ← HB.out, HUS.out, HK.out]
      exact HM.out
end
end Go.Proofs.YtnpeankmmojebaaDoor
