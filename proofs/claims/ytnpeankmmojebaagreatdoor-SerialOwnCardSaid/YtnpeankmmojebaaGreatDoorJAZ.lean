import Derived.Test.YtnpeankmmojebaaGreatDoorJAY
/- Layer 11: a walk's lay. -/
set_option linter.unusedVariables false
namespace Go.Proofs.YtnpeankmmojebaaGreatDoor
set_option maxRecDepth 100000
set_option maxRecDepth 100000
open Go.RowKit

theorem own_new11 {vl : Value} {g c l : Nat} {W : World} (h : vl.ownBlock = some g ∨ g = W.heap.size) (k : Nat) (hk : (Value.slice (some ⟨g, 0, none⟩) l c).ownBlock = some k) : vl.ownBlock = some k ∨ W.heap.size ≤ k := by
  have e : g = k := by simpa [Value.ownBlock] using hk
  rcases h with q | q
  · exact .inl (e ▸ q)
  · exact .inr (by omega)
theorem SB.outX11 {F : Nat → Prop} {w w' : World} {A : Option Addr} {m : Nat} {vs : List Value} (h : SB w A m vs) (o : Out F w w') (hF : ∀ ad, A = some ad → ¬ F ad.block) : SB w' A m vs :=
  ⟨h.len, h.one, fun h0 => by
    obtain ⟨g, q, rfl, hc⟩ := h.cell h0
    exact ⟨g, q, rfl, fun j u hj => o.cell (hc j u hj) (hF ⟨g, q, none⟩ rfl)⟩⟩
/-- A list of outs, where it lies. -/
theorem NetW.outAt {W : World} {gb b2 n x : Nat} {ns : List Int} {E : Eg} (h : NetW W gb b2 n ns E) (hx : x < n) : ∃ go A c, W.cell? ⟨gb, 1, none⟩ = some (.slice (some ⟨go, 0, none⟩) n n) ∧ W.cell? ⟨go, x, none⟩ = some (.slice A (outsP E x).length c) ∧ SB W A (outsP E x).length (numN (outsP E x)) ∧ ∀ ad, A = some ad → ad.block < b2 := by
  obtain ⟨go, gi, base, An, cn, vo, vi, hB, hbb, hown⟩ := h
  obtain ⟨v, hv⟩ : ∃ v, vo[x]? = some v := ⟨_, List.getElem?_eq_getElem (by rw [hB.vol]; exact hx)⟩
  obtain ⟨A, c, rfl, hs, -⟩ := (hB.outL hv (LOf_at hx)).form
  refine ⟨go, A, c, hB.cells.2.1, hB.outC hv, ?_, fun ad e => ?_⟩
  · have e : seI.s * (outsP E x).length = (outsP E x).length := Nat.one_mul _
    rwa [e] at hs
  · subst e
    exact hown x _ ad.block (by rw [List.getElem?_append_left (List.getElem?_eq_some_iff.1 hv).1]; exact hv) rfl
section
variable {w : World} {gw gb b2 n x : Nat} {ns : List Int} {E : Eg} {L : List Nat}
set_option maxHeartbeats 16000000 in
theorem wsLay (h : WkAt w gw gb b2 n ns E L) (hE : EdOk E n) (hl : E.length ≤ 8192) (hn : n ≤ 4096) (hL : LayP E n L) (hx : x < n) (hr : rdyB E L x = true) :
    Calls Tryz.prog 48 #[.pointer (some ⟨gw, 0, none⟩), .int .i64 (x : Nat)] w fun e w' => e = .returned (.tuple #[]) ∧ WkAt w' gw gb b2 n ns E (L ++ [x]) ∧ Out (fun k => b2 ≤ k) w w' := by
  obtain ⟨gt, gr, vl, hM, hN⟩ := h
  have hxL := (rdyB_is.1 hr).1
  have c1 := hM.cells.2.1
  have hLl : L.length ≤ n := hL.le
  have hb2 : b2 ≤ w.heap.size := by have := hM.glt.1; have := hM.lo; omega
  obtain ⟨W1, hW1⟩ : ∃ W, w.alloc (.cells #[.int .i64 (x : Nat)] 3) = W := ⟨_, rfl⟩
  have b1 : Below w.heap.size w W1 := hW1 ▸ alloc_below11 w _
  have HW1 := Lib.hid hW1
  have B1 := Lib.hid b1
  have M1 := Lib.hid (hM.below b1)
  have c1' := keep_below c1 b1
  have SBA := Lib.hid (show SB W1 (some ⟨w.heap.size, 0, none⟩) (seI.s * 1) [.int .i64 (x : Nat)] from hW1 ▸ sb_int11 w x)
  have HX := Lib.hid (And.intro hx hxL)
  have HR := Lib.hid hr
  have HE := Lib.hid hE
  have HL := Lib.hid hL
  have HLl := Lib.hid hLl
  have HN := Lib.hid hn
  have HEl := Lib.hid hl
  have HB2 := Lib.hid hb2
  have NW := Lib.hid hN
  have hgw := Lib.hid hM.glt.1
  clear hE hl hn hL hx hr hM hN hxL hLl hb2 hW1 b1
  go_enter Tryz.func48, Tryz.ntmps48
  go_upto_region 1 with (first
    | (at_builtin; rw [HW1.out]; go_loud (refine so_appendL seI_ok (by rfl) (.tmp 10) (.tmp 12) (by rfl) vl (by rfl) M1.out.laid w.heap.size 1 [.int .i64 (x : Nat)] (by rfl) SBA.out (by have := HLl.out; have := HN.out; simp only [seI]; omega) (by have := HLl.out; have := HN.out; simp only [maxLen]; omega) (by have := HB2.out; have := B1.out.size; omega) ?_; intro g4 c4 w4 o4 hg4 hl4; obtain ⟨d1, f1, hM2, ho2⟩ := M1.out.setLaid (W' := w4) (vl2 := .slice (some ⟨g4, 0, none⟩) (L.length + 1) c4) (L2 := L ++ [x]) (by rw [numN_app, List.length_append]; exact o4) ((Out.refl _ _).grown hg4 fun k e => .inl e) (own_new11 hl4); have M2 := Lib.hid hM2; have O2 := Lib.hid (((Out.of_below B1.out (fun k => b2 ≤ k)).mono fun i _ e => e).then ho2); clear o4 hg4 hl4 hM2 ho2))
    | fail)
  go_upto_region 2 with (go_at_call 44; go_loud (refine (wsFlip M2.out HN.out HX.out.1).mono ?_; rintro e w6 ⟨rfl, m6, o6⟩; rw [rj_zero HX.out.1 HR.out] at m6; have M6 := Lib.hid m6; have O6 := Lib.hid (O2.out.then (o6.mono fun i _ q => by have := M2.out.glt.2.2.1; omega)); clear m6 o6))
  have x0 := M6.out.cells.1
  obtain ⟨go, OA, oc, x1, hoa, hsb, hob⟩ := (NW.out.out O6.out).outAt HX.out.1
  have xn : (x : Int) < (n : Int) := by have := HX.out.1; omega
  have n4 : (n : Int) ≤ 4096 := by have := HN.out; omega
  obtain ⟨us, hus⟩ : ∃ us, outsP E x = us := ⟨_, rfl⟩
  obtain ⟨k, hk⟩ : ∃ k, us.length = k := ⟨_, rfl⟩
  rw [hus, hk] at hoa hsb
  have HUS := Lib.hid hus
  have HK := Lib.hid hk
  have HK2 := Lib.hid (show k ≤ 8192 by rw [← hk, ← hus]; exact Nat.le_trans (outsP_len _ _) HEl.out)
  have SBO := Lib.hid hsb
  have HOB := Lib.hid hob
  clear hus hk hsb hob
  go_upto_region 3 with fail
  clear x0 x1 hoa
  go_loopw [30] (fun i wr => ∃ j : Nat, i = .int .i64 (j : Nat) ∧ j ≤ k ∧ WkM wr gw gb gt gr b2 n (.slice (some ⟨g4, 0, none⟩) (L.length + 1) c4) (L ++ [x]) (wjP E L x j) (rjP E n L x j) ∧ Out (fun k => b2 ≤ k) w6 wr) (fun i _ => k - (intOf i).toNat)
  case atStart => exact ⟨0, rfl, Nat.zero_le _, by rw [wj_zero]; exact M6.out, Out.refl _ _⟩
  case round =>
    rename World => wr
    obtain ⟨j, rfl, hj, hm, ho⟩ := hrel
    by_cases hlt : j < k
    · obtain ⟨tv, hto⟩ : ∃ tv, us[j]? = some tv := ⟨_, List.getElem?_eq_getElem (by rw [HK.out]; exact hlt)⟩
      have hto2 : (outsP E x)[j]? = some tv := HUS.out ▸ hto
      obtain ⟨g, o, rfl, u0⟩ := (SBO.out.outX11 ho fun ad e q => by have := HOB.out ad e; have q : b2 ≤ ad.block := q; omega).num (l := us.map fun (k : Nat) => (k : Int)) (by rw [List.getElem?_map, hto]; rfl)
      obtain ⟨hs1, hs2⟩ := wj_step (E := E) HX.out.2 hto2
      obtain ⟨hf1, hf2⟩ := out_fresh HE.out HL.out HX.out.2 hto2
      have c2 := hm.cells.2.2.1
      obtain ⟨t0, tf⟩ := hm.wait hf1
      obtain ⟨y, hy⟩ : ∃ y, wjP E L x (j + 1) tv = y := ⟨_, rfl⟩
      have hyl : y ≤ 8192 := by
        have h1 : wtnW E L tv ≤ (insP E tv).length := List.length_filter_le _ _
        have h2 := insP_len E tv
        have h3 := HEl.out
        have h4 : wjP E L x (j + 1) tv ≤ wtnW E L tv := Nat.sub_le _ _
        omega
      rw [hs1, hy] at t0
      have hset := hm.setWait hf1 y
      rw [hy] at hs2
      rw [hs2] at hset
      have oset : Out (fun k => b2 ≤ k) wr (wr.setCell ⟨gt, tv, none⟩ (.int .i64 (y : Nat))) := Out.setCell (F := fun k => b2 ≤ k) (Out.refl _ wr) (p := ⟨gt, tv, none⟩) (.inl hm.glt.2.1.1) _
      have i1 : (j : Int) < (k : Int) := by omega
      have l1 : (j : Int) ≤ 8192 := by have := HK2.out; omega
      have ton : (tv : Int) < (n : Int) := by omega
      have yl : (y : Int) ≤ 8192 := by omega
      have HSET := Lib.hid hset
      have OSET := Lib.hid (ho.then oset)
      have c2' := hset.cells.2.2.1
      have t0' := (hset.wait hf1).1
      rw [hy] at t0'
      have HJ := Lib.hid hlt
      have HF := Lib.hid (And.intro hf1 hto2)
      have HY := Lib.hid hy
      clear hj hm ho hto hto2 hs1 hs2 hf1 hf2 hset oset hy hlt
      obtain ⟨W2, hW2⟩ : ∃ W, wr.setCell ⟨gt, tv, none⟩ (.int .i64 (y : Nat)) = W := ⟨_, rfl⟩
      rw [hW2] at HSET OSET c2' t0'
      have HW2 := Lib.hid hW2
      clear hW2
      go_upto_region 6 with fail
      rw [HW2.out]
      clear u0 c2 t0 tf
      by_cases hy0 : y = 0
      · subst hy0
        go_wp2_with (go_at_call 44; go_loud (refine (wsFlip HSET.out HN.out HF.out.1).mono ?_; rintro e w8 ⟨rfl, m8, o8⟩; rw [rj_flip HE.out HL.out HX.out.2 HF.out.2 HY.out] at m8; have M8 := Lib.hid m8; have O8 := Lib.hid (OSET.out.then (o8.mono fun i _ q => by have := HSET.out.glt.2.2.1; omega)); clear m8 o8))
        go_roundw
        case rel => exact ⟨j + 1, by go_num, HJ.out, M8.out, O8.out⟩
        case measure => have := HJ.out; simp [intOf]; omega
      · have y0 : ((y : Int) == 0) = false := by simpa using hy0
        have HK3 := Lib.hid (rj_keep (E := E) (n := n) HX.out.2 HF.out.2 (by rw [HY.out]; exact hy0))
        go_wp2
        go_roundw
        case rel => exact ⟨j + 1, by go_num, HJ.out, by rw [← HK3.out]; exact HSET.out, OSET.out⟩
        case measure => have := HJ.out; simp [intOf]; omega
    · obtain rfl : j = k := by omega
      have i1 : ¬ (j : Int) < (j : Int) := by omega
      have HM := Lib.hid hm
      have HO := Lib.hid (O6.out.then ho)
      have HA := Lib.hid (wj_all (E := E) HX.out.2)
      have HB := Lib.hid (rj_all (E := E) (n := n) HX.out.2)
      clear hj hlt hm ho
      go_wp2
      go_end0
      refine ⟨rfl, ⟨gt, gr, .slice (some ⟨g4, 0, none⟩) (L.length + 1) c4, ?_, NW.out.out HO.out⟩, HO.out⟩
      rw [← HA.out, ← HB.out, HUS.out, HK.out]
      exact HM.out
end
end Go.Proofs.YtnpeankmmojebaaGreatDoor

/- Layer 11: newWalk. -/
namespace Go.Proofs.YtnpeankmmojebaaGreatDoor
set_option maxRecDepth 100000
set_option maxRecDepth 100000
open Go.RowKit

theorem WkM.start {W : World} {gb gt gr b2 n : Nat} (E : Eg) (h1 : SO seI b2 W (.slice (some ⟨gt, 0, none⟩) n n) n (List.replicate n (.int .i64 0))) (h2 : SO seU b2 W (.slice (some ⟨gr, 0, none⟩) (n / 64 + 1) (n / 64 + 1)) (n / 64 + 1) (List.replicate (n / 64 + 1) (.int .u64 0))) (hne : gt ≠ gr) (hb : b2 ≤ W.heap.size) :
    WkM (W.alloc (.cells #[.pointer (some ⟨gb, 0, none⟩), .slice none 0 0, .slice (some ⟨gt, 0, none⟩) n n, .slice (some ⟨gr, 0, none⟩) (n / 64 + 1) (n / 64 + 1)] 82)) W.heap.size gb gt gr b2 n (.slice none 0 0) [] (wnP E 0) (rnP E 0) where
  row := heap_alloc_new W _
  laid := SO.nil _ _ _
  waits := by
    have := h1.below (alloc_below11 W (.cells #[.pointer (some ⟨gb, 0, none⟩), .slice none 0 0, .slice (some ⟨gt, 0, none⟩) n n, .slice (some ⟨gr, 0, none⟩) (n / 64 + 1) (n / 64 + 1)] 82))
    rw [← numN_rep] at this
    have e : (List.range n).map (wnP E 0) = List.replicate n 0 := by
      apply List.ext_getElem
      · simp
      · intro i k1 k2; simp [wnP]
    rw [e]; exact this
  ready := by
    refine ⟨List.replicate (n / 64 + 1) 0, ⟨by simp, fun i x hx => ?_⟩, ?_⟩
    · rw [List.getElem?_replicate] at hx
      split at hx
      · cases hx; exact ⟨by omega, fun b _ => by simp [rnP]⟩
      · cases hx
    · have := h2.below (alloc_below11 W (.cells #[.pointer (some ⟨gb, 0, none⟩), .slice none 0 0, .slice (some ⟨gt, 0, none⟩) n n, .slice (some ⟨gr, 0, none⟩) (n / 64 + 1) (n / 64 + 1)] 82))
      rw [← numU_rep] at this
      exact this
  top v _ := by simp [rnP]
  lo := hb
  ne := by
    have h3 := (h1.own.lt gt rfl).2
    have h4 := (h2.own.lt gr rfl).2
    exact ⟨by omega, by omega, hne⟩
  nl k hk := by cases hk
/-- A list of ins, where it lies. -/
theorem NetW.inAt {W : World} {gb b2 n x : Nat} {ns : List Int} {E : Eg} (h : NetW W gb b2 n ns E) (hx : x < n) : ∃ gi A c, W.cell? ⟨gb, 2, none⟩ = some (.slice (some ⟨gi, 0, none⟩) n n) ∧ W.cell? ⟨gi, x, none⟩ = some (.slice A (insP E x).length c) ∧ ∀ ad, A = some ad → ad.block < b2 := by
  obtain ⟨go, gi, base, An, cn, vo, vi, hB, hbb, hown⟩ := h
  obtain ⟨v, hv⟩ : ∃ v, vi[x]? = some v := ⟨_, List.getElem?_eq_getElem (by rw [hB.vil]; exact hx)⟩
  obtain ⟨A, c, rfl, hs, -⟩ := (hB.inL hv (LIf_at hx)).form
  refine ⟨gi, A, c, hB.cells.2.2, hB.inC hv, fun ad e => ?_⟩
  subst e
  exact hown (n + x) _ ad.block (by rw [List.getElem?_append_right (by rw [hB.vol]; omega), hB.vol, Nat.add_sub_cancel_left]; exact hv) rfl
theorem WkM.congr {W : World} {gw gb gt gr b2 n : Nat} {vl : Value} {L : List Nat} {Wf Wg : Nat → Nat} {R : Nat → Bool} (h : WkM W gw gb gt gr b2 n vl L Wf R) (he : ∀ v, v < n → Wf v = Wg v) : WkM W gw gb gt gr b2 n vl L Wg R :=
  ⟨h.row, h.laid, by
    have e : (List.range n).map Wg = (List.range n).map Wf := List.map_congr_left fun v hv => (he v (List.mem_range.1 hv)).symm
    rw [e]; exact h.waits, h.ready, h.top, h.lo, h.ne, h.nl⟩
section
variable {w : World} {gb n : Nat} {ns : List Int} {E : Eg}
set_option maxHeartbeats 16000000 in
theorem wsNewWalk (h : NetAt w gb n ns E) (hl : E.length ≤ 8192) (hn : n ≤ 4096) :
    Calls Tryz.prog 25 #[.pointer (some ⟨gb, 0, none⟩)] w fun e w' => ∃ gw, e = .returned (.pointer (some ⟨gw, 0, none⟩)) ∧ WkAt w' gw gb w.heap.size n ns E [] ∧ Below w.heap.size w w' := by
  have hW := h.toW
  obtain ⟨go, gi, base, An, cn, vo, vi, hB⟩ := h
  have x0 := hB.cells.1
  obtain ⟨q, hq⟩ : ∃ q, n / 64 = q := ⟨_, rfl⟩
  have q64 : (q : Int) ≤ 64 := by omega
  have eq : (n : Int) / 64 = (q : Int) := by omega
  have n4 : (n : Int) ≤ 4096 := by omega
  obtain ⟨u1, mk1, so1, b1, l1⟩ := so_make seI_ok rfl rfl rfl w.drew n (by omega) w.heap.size (Nat.le_refl _)
  obtain ⟨u2, mk2, so2, b2, l2⟩ := so_make seU_ok rfl rfl rfl u1 (q + 1) (by omega) w.heap.size b1.size
  obtain ⟨v1, mk3, so3, b3, l3⟩ := so_make seU_ok rfl rfl rfl w.drew (q + 1) (by omega) w.heap.size (Nat.le_refl _)
  obtain ⟨v2, mk4, so4, b4, l4⟩ := so_make seI_ok rfl rfl rfl v1 n (by omega) w.heap.size b3.size
  have mk1 : (Instr.makeSlice 22 (.int .i64 (n : Int)) (.int .i64 (n : Int))).run Tryz.prog w.drew = .ok (.slice (some ⟨w.heap.size, 0, none⟩) n n) u1 := mk1
  have mk2 : (Instr.makeSlice 80 (.int .i64 ((q : Int) + 1)) (.int .i64 ((q : Int) + 1))).run Tryz.prog u1 = .ok (.slice (some ⟨u1.heap.size, 0, none⟩) (q + 1) (q + 1)) u2 := mk2
  have mk3 : (Instr.makeSlice 80 (.int .i64 ((q : Int) + 1)) (.int .i64 ((q : Int) + 1))).run Tryz.prog w.drew = .ok (.slice (some ⟨w.heap.size, 0, none⟩) (q + 1) (q + 1)) v1 := mk3
  have mk4 : (Instr.makeSlice 22 (.int .i64 (n : Int)) (.int .i64 (n : Int))).run Tryz.prog v1 = .ok (.slice (some ⟨v1.heap.size, 0, none⟩) n n) v2 := mk4
  have bd : Below w.heap.size w w.drew := below_drew11 w
  have y1 : u1.cell? ⟨gb, 0, none⟩ = some (.slice An n cn) := keep_below x0 (bd.trans b1)
  have y3 : v1.cell? ⟨gb, 0, none⟩ = some (.slice An n cn) := keep_below x0 (bd.trans b3)
  have HB1 := Lib.hid (bd.trans b1)
  have HB2 := Lib.hid b2
  have HB3 := Lib.hid (bd.trans b3)
  have HB4 := Lib.hid b4
  have HW := Lib.hid hW
  have HB := Lib.hid hB
  have HL := Lib.hid hl
  have HQ := Lib.hid hq
  have S1 := Lib.hid so1
  have S2 := Lib.hid so2
  have S3 := Lib.hid so3
  have S4 := Lib.hid so4
  have HLT := Lib.hid (And.intro l1 (And.intro l2 (And.intro l3 l4)))
  have KA := Lib.hid (show WkM (u2.alloc (.cells #[.pointer (some ⟨gb, 0, none⟩), .slice none 0 0, .slice (some ⟨w.heap.size, 0, none⟩) n n, .slice (some ⟨u1.heap.size, 0, none⟩) (q + 1) (q + 1)] 82)) u2.heap.size gb w.heap.size u1.heap.size w.heap.size n (.slice none 0 0) [] (wnP E 0) (rnP E 0) by
    have := WkM.start (gb := gb) E (W := u2) (gt := w.heap.size) (gr := u1.heap.size) (b2 := w.heap.size) (n := n) (so1.below b2) (by rw [hq]; exact so2) (by have h1 : w.heap.size < u1.heap.size := l1; omega) (Nat.le_trans b1.size b2.size)
    rw [hq] at this; exact this)
  have KB := Lib.hid (show WkM (v2.alloc (.cells #[.pointer (some ⟨gb, 0, none⟩), .slice none 0 0, .slice (some ⟨v1.heap.size, 0, none⟩) n n, .slice (some ⟨w.heap.size, 0, none⟩) (q + 1) (q + 1)] 82)) v2.heap.size gb v1.heap.size w.heap.size w.heap.size n (.slice none 0 0) [] (wnP E 0) (rnP E 0) by
    have := WkM.start (gb := gb) E (W := v2) (gt := v1.heap.size) (gr := w.heap.size) (b2 := w.heap.size) (n := n) so4 (by rw [hq]; exact so3.below b4) (by have h1 : w.heap.size < v1.heap.size := l3; omega) (Nat.le_trans b3.size b4.size)
    rw [hq] at this; exact this)
  have BA := Lib.hid (show ∀ o, Below w.heap.size w (u2.alloc o) from fun o => ((bd.trans b1).trans (b2.mono b1.size)).trans ((alloc_below11 u2 o).mono (Nat.le_trans b1.size b2.size)))
  have BB := Lib.hid (show ∀ o, Below w.heap.size w (v2.alloc o) from fun o => ((bd.trans b3).trans (b4.mono b3.size)).trans ((alloc_below11 v2 o).mono (Nat.le_trans b3.size b4.size)))
  clear hW hB hl hq so1 so2 so3 so4 b1 b2 b3 b4 l1 l2 l3 l4 bd
  go_enter Tryz.func25, Tryz.ntmps25
  go_upto_region 1 with fail
  go_cut [3] (fun v3 wx => ∃ gw gt gr, v3 = .pointer (some ⟨gw, 0, none⟩) ∧ WkM wx gw gb gt gr w.heap.size n (.slice none 0 0) [] (wnP E 0) (rnP E 0) ∧ Below w.heap.size w wx)
  case first =>
    go_region
    all_goals (go_wp2_with fail; go_meet; first | exact ⟨_, _, _, rfl, KA.out, BA.out _⟩ | exact ⟨_, _, _, rfl, KB.out, BB.out _⟩)
  case rest =>
    obtain ⟨gw, gt, gr, rfl, hM, hb⟩ := hcut
    rename World => w3
    clear y1 y3 mk1 mk2 mk3 mk4
    have x3 := keep_below x0 hb
    have M3 := Lib.hid hM
    have B3 := Lib.hid hb
    clear hM hb x0
    have HN := Lib.hid hn
    go_upto_region 3 with fail
    clear x3
    go_loopw [27] (fun i wr => ∃ j : Nat, i = .int .i64 (j : Nat) ∧ j ≤ n ∧ WkM wr gw gb gt gr w.heap.size n (.slice none 0 0) [] (wnP E j) (rnP E j) ∧ Below w.heap.size w wr) (fun i _ => n - (intOf i).toNat)
    case atStart => exact ⟨0, rfl, Nat.zero_le _, M3.out, B3.out⟩
    case round =>
      rename World => wr
      obtain ⟨j, rfl, hj, hm, hb⟩ := hrel
      by_cases hlt : j < n
      · obtain ⟨gi2, IA, ic, z2, zi, -⟩ := (HW.out.below hb).inAt hlt
        obtain ⟨p, hp⟩ : ∃ p, (insP E j).length = p := ⟨_, rfl⟩
        rw [hp] at zi
        have hpl : (p : Int) ≤ 8192 := by have := insP_len E j; have := HL.out; omega
        have c2 := hm.cells.2.2.1
        obtain ⟨t0, tf⟩ := hm.wait hlt
        have hset := hm.setWait hlt p
        rw [show (fun u => if u = j then p else wnP E j u) = wnP E (j + 1) by rw [← hp]; exact wn_step E j] at hset
        have gtb : w.heap.size ≤ gt := hm.glt.2.1.1
        obtain ⟨W2, hW2⟩ : ∃ W, wr.setCell ⟨gt, j, none⟩ (.int .i64 (p : Nat)) = W := ⟨_, rfl⟩
        rw [hW2] at hset
        have bset : Below w.heap.size w W2 := hW2 ▸ ((Out.of_below hb (fun _ => False)).setCell (p := ⟨gt, j, none⟩) (.inr gtb) (.int .i64 (p : Nat))).below (Nat.le_refl _) (fun _ _ h => h)
        have i1 : (j : Int) < (n : Int) := by omega
        have hsetd := hset.below (below_drew11 W2)
        have c2' := hsetd.cells.2.2.1
        have t0' := (hsetd.wait hlt).1
        rw [show wnP E (j + 1) j = p by unfold wnP; rw [if_pos (Nat.lt_succ_self _)]; exact hp] at t0'
        have HSET := Lib.hid hsetd
        have BSET := Lib.hid (below_next bset (below_drew11 W2))
        have HW2 := Lib.hid hW2
        have HP := Lib.hid hp
        have HJ := Lib.hid hlt
        clear hj hm hb hset hsetd bset hW2 hp hlt gtb
        obtain ⟨W3, hW3⟩ : ∃ W, W2.drew = W := ⟨_, rfl⟩
        rw [hW3] at c2' t0' HSET BSET
        have HW3 := Lib.hid hW3
        clear hW3
        go_upto_region 5 with fail
        go_region
        rw [HW2.out, HW3.out]
        clear z2 zi c2 t0 tf
        by_cases hp0 : p = 0
        · subst hp0
          go_wp2_with (go_at_call 44; go_loud (refine (wsFlip HSET.out HN.out HJ.out).mono ?_; rintro e w8 ⟨rfl, m8, o8⟩; rw [rn_flip E j HP.out] at m8; have M8 := Lib.hid m8; have B8 := Lib.hid (((Out.of_below BSET.out (fun k => w.heap.size ≤ k)).then (o8.mono fun i _ q => by have := HSET.out.glt.2.2.1; omega)).below (Nat.le_refl _) (fun i hi h => by have h : w.heap.size ≤ i := h; omega)); clear m8 o8))
          go_roundw
          case rel => exact ⟨j + 1, by go_num, HJ.out, M8.out, B8.out⟩
          case measure => have := HJ.out; simp [intOf]; omega
        · have p0 : ((p : Int) == 0) = false := by simpa using hp0
          have HK3 := Lib.hid (rn_keep E j (by rw [HP.out]; exact hp0))
          go_wp2
          go_roundw
          case rel => exact ⟨j + 1, by go_num, HJ.out, by rw [← HK3.out]; exact HSET.out, BSET.out⟩
          case measure => have := HJ.out; simp [intOf]; omega
      · obtain rfl : j = n := by omega
        have i1 : ¬ (j : Int) < (j : Int) := by omega
        have M := Lib.hid hm
        have B := Lib.hid hb
        clear hj hlt hm hb
        go_wp2
        go_ret
        refine ⟨gw, rfl, ⟨gt, gr, .slice none 0 0, ?_, HW.out.below B.out⟩, B.out⟩
        rw [← rn_all]
        exact M.out.congr fun v hv => by rw [wtnW_nil]; unfold wnP; rw [if_pos hv]
end
end Go.Proofs.YtnpeankmmojebaaGreatDoor
