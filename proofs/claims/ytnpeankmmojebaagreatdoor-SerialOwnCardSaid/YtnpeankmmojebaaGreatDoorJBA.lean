import Derived.Test.YtnpeankmmojebaaGreatDoorJAZ
import Derived.Deep.LoopGhost
import Derived.Test.YtnpeankmmojebaaGreatDoorJAX
/- Layer 11: a walk's fill and order. -/
set_option linter.unusedVariables false
namespace Go.Proofs.YtnpeankmmojebaaGreatDoor
set_option maxRecDepth 100000
set_option maxRecDepth 100000
open Go.RowKit

theorem TzAt.out {w w' : World} (h : TzAt w) {F : Nat → Prop} (o : Out F w w') (hF : ¬ F 0) : TzAt w' := fun j v hj => o.cell (h j v hj) hF
theorem fill_set11 {Z : List Value} {j k : Nat} {z : Value} (hz : Z[j]? = some z) (hl : Z.length = k) (x0 : Value) : (Z.take j ++ List.replicate (k - j) x0).set j z = Z.take (j + 1) ++ List.replicate (k - (j + 1)) x0 := by
  have hj := (List.getElem?_eq_some_iff.1 hz).1
  have e1 : (Z.take j).length = j := by rw [List.length_take]; omega
  rw [List.set_append_right _ _ (by omega), e1, Nat.sub_self, show k - j = (k - (j + 1)) + 1 by omega, List.replicate_succ, List.set_cons_zero, List.take_add_one, hz, Option.toList_some, List.append_assoc]
  rfl
section
variable {w : World} {gw gb b2 n : Nat} {ns : List Int} {E : Eg} {L : List Nat}
/-- A walk's cells. -/
theorem WkAt.cells (h : WkAt w gw gb b2 n ns E L) : ∃ A c An cn, w.cell? ⟨gw, 0, none⟩ = some (.pointer (some ⟨gb, 0, none⟩)) ∧ w.cell? ⟨gw, 1, none⟩ = some (.slice A L.length c) ∧ SB w A L.length (numN L) ∧ w.cell? ⟨gb, 0, none⟩ = some (.slice An n cn) ∧ SB w An n (numC ns) ∧ ns.length = n ∧ L.length ≤ c ∧ c ≤ maxLen := by
  obtain ⟨gt, gr, vl, hM, hN⟩ := h
  obtain ⟨go, gi, base, An, cn, vo, vi, hB, hbb, hown⟩ := hN
  obtain ⟨A, c, rfl, hs, hc, hm, -⟩ := hM.laid.form
  have e : seI.s * L.length = L.length := Nat.one_mul _
  rw [e] at hs
  exact ⟨A, c, An, cn, hM.cells.1, hM.cells.2.1, hs, hB.cells.1, hB.nb, hB.nl, hc, hm⟩
theorem WkAt.ready (h : WkAt w gw gb b2 n ns E L) (hT : TzAt w) (hn : n ≤ 4096) {r : Nat} (hr : r ≤ n) :
    Calls Tryz.prog 47 #[.pointer (some ⟨gw, 0, none⟩), .int .i64 (r : Nat)] w fun e w' => w' = w ∧ ∃ o, NxtIs (rwP E n L) n r o ∧ e = .returned (.int .i64 o) := by
  obtain ⟨gt, gr, vl, hM, hN⟩ := h
  exact wsReady hM hT hn hr
set_option maxHeartbeats 16000000 in
theorem wsFill (h : WkAt w gw gb b2 n ns E L) (hE : EdOk E n) (hl : E.length ≤ 8192) (hn : n ≤ 4096) (hT : TzAt w) (hg : 0 < b2) (hL : LayP E n L) :
    Calls Tryz.prog 27 #[.pointer (some ⟨gw, 0, none⟩)] w fun e w' => ∃ M, FillP E n L M ∧ WkAt w' gw gb b2 n ns E M ∧ Out (fun k => b2 ≤ k) w w' ∧ e = .returned (.bool (decide (M.length = n))) := by
  have C0 := Lib.hid (h.ready hT hn (Nat.zero_le n))
  have H := Lib.hid h
  have HE := Lib.hid hE
  have HL := Lib.hid hl
  have HN := Lib.hid hn
  have HT := Lib.hid hT
  have HG := Lib.hid (show ¬ b2 ≤ 0 by omega)
  have HLY := Lib.hid hL
  clear h hE hl hn hT hg hL
  go_enter Tryz.func27, Tryz.ntmps27
  go_upto_region 2 with (go_at_call 47; go_loud (refine C0.out.mono ?_; rintro e w1 ⟨rfl, o, ho, rfl⟩; have O0 := Lib.hid ho; clear ho))
  go_loopg [3] (n + 1) (fun gk v wr => ∃ K o, v = .int .i64 o ∧ NxtIs (rwP E n K) n 0 o ∧ WkAt wr gw gb b2 n ns E K ∧ LayP E n K ∧ Out (fun k => b2 ≤ k) w1 wr ∧ (∀ M, FillP E n K M → FillP E n L M) ∧ n + 1 ≤ gk + K.length)
  case atStart => exact ⟨L, o, rfl, O0.out, H.out, HLY.out, Out.refl _ _, fun _ h => h, by omega⟩
  case round =>
    rename World => wr
    obtain ⟨K, o, rfl, ho, hw, hK, hout, hF, hgk⟩ := hrel
    have hKl := hK.le
    rcases ho with ⟨rfl, hnone⟩ | ⟨v, rfl, -, hv, hr, hleast⟩
    · have hst : FillP E n K K := .stop fun v hv => by
        have := hnone v (Nat.zero_le _) hv
        unfold rwP at this
        rw [decide_eq_true hv, Bool.true_and] at this; exact this
      have HF := Lib.hid (hF K hst)
      obtain ⟨A, c, An, cn, c0, c1, -, g0, -, -, hcl, hcm⟩ := hw.cells
      have HW := Lib.hid hw
      have HO := Lib.hid hout
      obtain ⟨k, hk⟩ : ∃ k, K.length = k := ⟨_, rfl⟩
      rw [hk] at c1
      have k4 : (k : Int) ≤ 4096 := by have := HN.out; omega
      have n4 : (n : Int) ≤ 4096 := by have := HN.out; omega
      have HK := Lib.hid hk
      clear hw hK hout hF hgk hKl hnone hst hk hcl hcm C0
      by_cases hkn : k = n
      · subst hkn
        go_wp2
        go_region
        all_goals go_wp2
        all_goals go_ret
        all_goals exact ⟨K, HF.out, HW.out.below (below_drew11 _), HO.out.then (Out.of_below (below_drew11 _) _), by rw [decide_eq_true HK.out]; first | rfl | simp⟩
      · have e0 : ((k : Int) == (n : Int)) = false := by simp; omega
        go_wp2
        go_region
        all_goals go_wp2
        all_goals go_ret
        all_goals exact ⟨K, HF.out, HW.out.below (below_drew11 _), HO.out.then (Out.of_below (below_drew11 _) _), by rw [HK.out, decide_eq_false hkn]; first | rfl | simp [e0]⟩
    · unfold rwP at hr
      rw [Bool.and_eq_true] at hr
      have hr2 := hr.2
      have hst : ∀ M, FillP E n (K ++ [v]) M → FillP E n L M := fun M hM => hF M (.step hv hr2 (fun u hu => by
        have := hleast u (Nat.zero_le _) hu
        unfold rwP at this
        rw [decide_eq_true (Nat.lt_trans hu hv), Bool.true_and] at this; exact this) hM)
      have HF := Lib.hid hst
      have CL := Lib.hid (wsLay hw HE.out HL.out HN.out hK hv hr2)
      have HK := Lib.hid (LayP.snoc hK hv hr2)
      have HO := Lib.hid hout
      have HGK := Lib.hid (And.intro hgk hKl)
      have v0 : (0 : Int) ≤ (v : Int) := by omega
      clear hw hK hout hF hgk hKl hleast hst hr hr2 C0
      go_wp2_with (first
        | (go_at_call 48; go_loud (refine CL.out.mono ?_; rintro e w2 ⟨rfl, k2, o2⟩; have K2 := Lib.hid k2; have O2 := Lib.hid (HO.out.then o2); clear k2 o2))
        | (go_at_call 47; go_loud (refine (K2.out.ready (HT.out.out O2.out HG.out) HN.out (Nat.zero_le n)).mono ?_; rintro e w3 ⟨rfl, o3, ho3, rfl⟩; have O3 := Lib.hid ho3; clear ho3)))
      go_roundg (gk - 1)
      case measure => have := HGK.out; omega
      case rel => exact ⟨K ++ [v], o3, rfl, O3.out, K2.out, HK.out, O2.out, HF.out, by have := HGK.out; rw [List.length_append, List.length_singleton]; omega⟩
set_option maxHeartbeats 16000000 in
theorem wsOrd (h : WkAt w gw gb b2 n ns E L) (hn : n ≤ 4096) (hL : LayP E n L) :
    Calls Tryz.prog 28 #[.pointer (some ⟨gw, 0, none⟩)] w fun e w' => ∃ v, e = .returned v ∧ SO seI w.heap.size w' v L.length (numC (L.map fun r => ns.getD r 0)) ∧ Below w.heap.size w w' := by
  obtain ⟨A, c, An, cn, c0, c1, sl, g0, sn, nl, hcl, hcm⟩ := h.cells
  have hle := hL.le
  obtain ⟨k, hk⟩ : ∃ k, L.length = k := ⟨_, rfl⟩
  rw [hk] at c1 sl
  obtain ⟨w1, mk1, so1, b1, l1⟩ := so_make seI_ok rfl rfl rfl w k (by omega) w.heap.size (Nat.le_refl _)
  have mk1 : (Instr.makeSlice 22 (.int .i64 (k : Int)) (.int .i64 (k : Int))).run Tryz.prog w = .ok (.slice (some ⟨w.heap.size, 0, none⟩) k k) w1 := mk1
  have k4 : (k : Int) ≤ 4096 := by omega
  have y1 := keep_below c1 b1
  have HS := Lib.hid sl
  have HNS := Lib.hid sn
  have B1 := Lib.hid b1
  have S1 := Lib.hid so1
  have HK := Lib.hid hk
  have HNL := Lib.hid nl
  have HLT := Lib.hid hL.lt
  have HC := Lib.hid (And.intro hn hle)
  have X0 := Lib.hid c0
  have X1 := Lib.hid g0
  clear h hn hL hk sl sn so1 b1 l1 hcl hcm hle nl
  go_enter Tryz.func28, Tryz.ntmps28
  go_upto_region 3 with fail
  clear c0 c1 g0 y1
  obtain ⟨Z, hZ⟩ : ∃ Z : List Value, Z = numC (L.map fun r => ns.getD r 0) := ⟨_, rfl⟩
  have HZ := Lib.hid hZ
  have HZL := Lib.hid (show Z.length = k by rw [hZ]; simp [numC, HK.out])
  clear hZ
  go_loopw [17] (fun i wr => ∃ j : Nat, i = .int .i64 (j : Nat) ∧ j ≤ k ∧ SO seI w.heap.size wr (.slice (some ⟨w.heap.size, 0, none⟩) k k) k (Z.take j ++ List.replicate (k - j) (.int .i64 0)) ∧ Below w.heap.size w wr) (fun i _ => k - (intOf i).toNat)
  case atStart => exact ⟨0, rfl, Nat.zero_le _, S1.out, B1.out⟩
  case round =>
    rename World => wr
    obtain ⟨j, rfl, hj, hs, hb⟩ := hrel
    by_cases hlt : j < k
    · obtain ⟨r, hr⟩ : ∃ r, L[j]? = some r := ⟨_, List.getElem?_eq_getElem (by rw [HK.out]; exact hlt)⟩
      have hrn := HLT.out r (List.mem_of_getElem? hr)
      obtain ⟨z, hz⟩ : ∃ z, ns[r]? = some z := ⟨_, List.getElem?_eq_getElem (by rw [HNL.out]; exact hrn)⟩
      obtain ⟨g, o, rfl, u0⟩ := (HS.out.gw hb).num (l := L.map fun (k : Nat) => (k : Int)) (by rw [List.getElem?_map, hr]; rfl)
      obtain ⟨g2, o2, rfl, u1⟩ := (HNS.out.gw hb).num hz
      have d0 := keep_below X0.out hb
      have d1 := keep_below X1.out hb
      have hzj : Z[j]? = some (.int .i64 z) := by
        rw [HZ.out]
        unfold numC
        rw [List.getElem?_map, List.getElem?_map, hr]
        simp [List.getD_eq_getElem?_getD, hz]
      obtain ⟨t0, ht0⟩ : ∃ t, (Z.take j ++ List.replicate (k - j) (Value.int .i64 0))[j]? = some t := ⟨_, List.getElem?_eq_getElem (by rw [List.length_append, List.length_take, List.length_replicate, HZL.out]; omega)⟩
      have f0 : wr.cell? ⟨w.heap.size, j, none⟩ = some t0 := by
        rcases hs.cell1 j with q | q
        · exact q.trans ht0
        · have := (List.getElem?_eq_some_iff.1 ht0).1; omega
      have f1 : wr.frozen? ⟨w.heap.size, j, none⟩ = false := hs.own.frozenAt j
      have hset := hs.set1 j (.int .i64 z) rfl
      rw [fill_set11 hzj HZL.out] at hset
      have hbs : Below w.heap.size w (wr.setCell ⟨w.heap.size, j, none⟩ (.int .i64 z)) := ((Out.of_below hb (fun _ => False)).setCell (p := ⟨w.heap.size, j, none⟩) (.inr (Nat.le_refl _)) (.int .i64 z)).below (Nat.le_refl _) (fun _ _ h => h)
      have i1 : (j : Int) < (k : Int) := by omega
      have rn : (r : Int) < (n : Int) := by omega
      have n4 : (n : Int) ≤ 4096 := by have := HC.out; omega
      have HSET := Lib.hid hset
      have HBS := Lib.hid hbs
      have HJ := Lib.hid hlt
      clear hj hs hb hr hrn hz hzj ht0 hset hbs hlt
      go_wp2
      go_roundw
      case rel => exact ⟨j + 1, by go_num, HJ.out, HSET.out, HBS.out⟩
      case measure => have := HJ.out; simp [intOf]; omega
    · obtain rfl : j = k := by omega
      have i1 : ¬ (j : Int) < (j : Int) := by omega
      rw [Nat.sub_self, List.replicate_zero, List.append_nil, List.take_of_length_le (by rw [HZL.out]; exact Nat.le_refl _), HZ.out] at hs
      have S := Lib.hid hs
      have B := Lib.hid hb
      clear hj hlt hs hb
      go_wp2
      go_ret
      exact ⟨_, rfl, by rw [HK.out]; exact S.out, B.out⟩
end
end Go.Proofs.YtnpeankmmojebaaGreatDoor

/- Layer 11: a walk's takeBack. -/
namespace Go.Proofs.YtnpeankmmojebaaGreatDoor
set_option maxRecDepth 100000
set_option maxRecDepth 100000
open Go.RowKit

/-- A list of the call's own is cut at its end. -/
theorem SO.upto {E : SEl} {base n c t : Nat} {w : World} {A : Option Addr} {vs : List Value} (h : SO E base w (.slice A n c) n vs) (ht : t ≤ n) : SO E base w (.slice A t c) t (vs.take (E.s * t)) := by
  refine ⟨⟨?_, ?_⟩, ?_, fun u hu => h.one u (List.mem_of_mem_take hu)⟩
  · rw [List.length_take, h.own.1, Nat.mul_comm E.s t]
    exact Nat.min_eq_left (Nat.mul_le_mul_right _ ht)
  · rcases h.own.2 with ⟨e, h0⟩ | ⟨g, cap, cur, e, hb, hh, hc, hm, hs, hk⟩
    · left
      injection e with e1 e2 e3
      subst e1 e2 e3
      have : t = 0 := by omega
      subst this
      exact ⟨rfl, rfl⟩
    · right
      injection e with e1 e2 e3
      subst e1 e3
      refine ⟨g, c, cur, rfl, hb, hh, by omega, hm, hs, ?_⟩
      rw [← hk, List.take_take, Nat.mul_comm E.s t, Nat.min_eq_left (Nat.mul_le_mul_right _ ht)]
  · rw [List.length_take, h.len]
    exact Nat.min_eq_left (Nat.mul_le_mul_left _ ht)
section
variable {w : World} {gw gb b2 n x : Nat} {ns : List Int} {E : Eg} {L : List Nat}
set_option maxHeartbeats 16000000 in
theorem wsTake (h : WkAt w gw gb b2 n ns E (L ++ [x])) (hE : EdOk E n) (hl : E.length ≤ 8192) (hn : n ≤ 4096) (hL : LayP E n (L ++ [x])) :
    Calls Tryz.prog 50 #[.pointer (some ⟨gw, 0, none⟩)] w fun e w' => e = .returned (.int .i64 (x : Nat)) ∧ WkAt w' gw gb b2 n ns E L ∧ Out (fun k => b2 ≤ k) w w' := by
  obtain ⟨gt, gr, vl, hM, hN⟩ := h
  obtain ⟨hL1, hx, hr⟩ := hL.last
  have hxL := (rdyB_is.1 hr).1
  have hll := hL.le
  rw [List.length_append, List.length_singleton] at hll
  obtain ⟨k, hk⟩ : ∃ k, L.length = k := ⟨_, rfl⟩
  obtain ⟨A, c, rfl, hs, hc, hcm, -⟩ := hM.laid.form
  have e1 : seI.s * (L ++ [x]).length = (L ++ [x]).length := Nat.one_mul _
  rw [e1] at hs
  have c0 := hM.cells.1
  have c1 := hM.cells.2.1
  have ek : (L ++ [x]).length = k + 1 := by simp [hk]
  rw [ek] at c1 hs hc
  obtain ⟨g, o, rfl, u0⟩ := hs.num (l := (L ++ [x]).map fun (k : Nat) => (k : Int)) (j := k) (x := (x : Int)) (by rw [List.getElem?_map, List.getElem?_append_right (by omega), hk, Nat.sub_self]; rfl)
  have hup := hM.laid.upto (t := k) (by omega)
  have hup : SO seI b2 w (.slice (some ⟨g, o, none⟩) k c) k (numN L) := by
    have e : (numN (L ++ [x])).take (seI.s * k) = numN L := by
      rw [numN_app, show seI.s * k = (numN L).length by rw [numN_len, hk]; exact Nat.one_mul _, List.take_left]
    rw [e] at hup
    exact hup
  have hset := hM.setLaid (W' := w) (vl2 := .slice (some ⟨g, o, none⟩) k c) (L2 := L) (by rw [hk]; exact hup) (Out.refl _ _) (fun q hq => .inl hq)
  obtain ⟨-, f1, hM2, ho2⟩ := hset
  have hru := run_uptoE seI_ok w (some ⟨g, o, none⟩) (k + 1) c k (by omega)
  have hru : (Instr.slice 22 (.slice (some ⟨g, o, none⟩) (k + 1) c) none (some (.int .i64 (k : Int))) none).run Tryz.prog w = .ok (.slice (some ⟨g, o, none⟩) k c) w := hru
  have k4 : (k : Int) ≤ 4096 := by omega
  have M2 := Lib.hid hM2
  have O2 := Lib.hid ho2
  have HX := Lib.hid (And.intro hx hxL)
  have HR := Lib.hid hr
  have HE := Lib.hid hE
  have HL := Lib.hid hL1
  have HN := Lib.hid hn
  have HEl := Lib.hid hl
  have NW := Lib.hid hN
  clear hE hl hn hL hL1 hx hr hM hN hxL hll hk hs hc hcm e1 ek hup hM2 ho2
  go_enter Tryz.func50, Tryz.ntmps50
  go_upto_region 4 with fail
  clear c0 c1 u0 f1 hru
  go_upto_region 5 with (go_at_call 44; go_loud (refine (wsFlip M2.out HN.out HX.out.1).mono ?_; rintro e w6 ⟨rfl, m6, o6⟩; rw [show flipR (rwP E n (L ++ [x])) x = rbP E n L x 0 from rb_zero HX.out.1] at m6; have M6 := Lib.hid m6; have O6 := Lib.hid (O2.out.then (o6.mono fun i _ q => by have := M2.out.glt.2.2.1; omega)); clear m6 o6))
  have x0 := M6.out.cells.1
  obtain ⟨go, OA, oc, x1, hoa, hsb, hob⟩ := (NW.out.out O6.out).outAt HX.out.1
  have xn : (x : Int) < (n : Int) := by have := HX.out.1; omega
  have n4 : (n : Int) ≤ 4096 := by have := HN.out; omega
  obtain ⟨us, hus⟩ : ∃ us, outsP E x = us := ⟨_, rfl⟩
  obtain ⟨p, hp⟩ : ∃ p, us.length = p := ⟨_, rfl⟩
  rw [hus, hp] at hoa hsb
  have HUS := Lib.hid hus
  have HP := Lib.hid hp
  have HP2 := Lib.hid (show p ≤ 8192 by rw [← hp, ← hus]; exact Nat.le_trans (outsP_len _ _) HEl.out)
  have SBO := Lib.hid hsb
  have HOB := Lib.hid hob
  clear hus hp hsb hob
  go_upto_region 6 with fail
  clear x0 x1 hoa
  go_loopw [43] (fun i wr => ∃ j : Nat, i = .int .i64 (j : Nat) ∧ j ≤ p ∧ WkM wr gw gb gt gr b2 n (.slice (some ⟨g, o, none⟩) k c) L (wbP E L x j) (rbP E n L x j) ∧ Out (fun k => b2 ≤ k) w6 wr) (fun i _ => p - (intOf i).toNat)
  case atStart => exact ⟨0, rfl, Nat.zero_le _, by rw [wb_zero]; exact M6.out, Out.refl _ _⟩
  case round =>
    rename World => wr
    obtain ⟨j, rfl, hj, hm, ho⟩ := hrel
    by_cases hlt : j < p
    · obtain ⟨tv, htv⟩ : ∃ tv, us[j]? = some tv := ⟨_, List.getElem?_eq_getElem (by rw [HP.out]; exact hlt)⟩
      have htv2 : (outsP E x)[j]? = some tv := HUS.out ▸ htv
      obtain ⟨g2, o2, rfl, u0⟩ := (SBO.out.outX11 ho fun ad e q => by have := HOB.out ad e; have q : b2 ≤ ad.block := q; omega).num (l := us.map fun (k : Nat) => (k : Int)) (by rw [List.getElem?_map, htv]; rfl)
      have hs2 := wb_step (L := L) htv2
      obtain ⟨hf1, hf2⟩ := out_fresh HE.out HL.out HX.out.2 htv2
      have c2 := hm.cells.2.2.1
      obtain ⟨t0, tf⟩ := hm.wait hf1
      obtain ⟨y, hy⟩ : ∃ y, wbP E L x j tv = y := ⟨_, rfl⟩
      have hyl : y ≤ 16384 := by
        have h1 : wtnW E (L ++ [x]) tv ≤ (insP E tv).length := List.length_filter_le _ _
        have h2 := insP_len E tv
        have h3 := HEl.out
        have h4 := count_take_le (outsP E x) j tv
        have h5 : (outsP E x).count tv ≤ (outsP E x).length := List.count_le_length
        have h6 := outsP_len E x
        rw [← hy]
        unfold wbP
        omega
      rw [hy] at t0 hs2
      have yl : (y : Int) ≤ 16384 := by omega
      have i1 : (j : Int) < (p : Int) := by omega
      have l1 : (j : Int) ≤ 8192 := by have := HP2.out; omega
      have ton : (tv : Int) < (n : Int) := by omega
      have HM := Lib.hid hm
      have HO := Lib.hid ho
      have HJ := Lib.hid hlt
      have HF := Lib.hid (And.intro hf1 htv2)
      have HY := Lib.hid hy
      have HS2 := Lib.hid hs2
      clear hj hm ho htv htv2 hf1 hf2 hy hlt hs2 hyl
      by_cases hy0 : y = 0
      · subst hy0
        go_upto_region 10 with (go_at_call 44; go_loud (refine (wsFlip HM.out HN.out HF.out.1).mono ?_; rintro e w8 ⟨rfl, m8, o8⟩; rw [rb_flip HE.out HL.out HX.out.2 HF.out.2 HY.out] at m8; have M8 := Lib.hid m8; have O8 := Lib.hid (HO.out.then (o8.mono fun i _ q => by have := HM.out.glt.2.2.1; omega)); have c2' := m8.cells.2.2.1; obtain ⟨t0', tf'⟩ := m8.wait HF.out.1; rw [HY.out] at t0'; clear m8 o8))
        clear u0 c2 t0 tf
        have hset := M8.out.setWait HF.out.1 1
        rw [HS2.out] at hset
        have HSET := Lib.hid hset
        have OSET := Lib.hid (O8.out.then (show Out (fun k => b2 ≤ k) w8 (w8.setCell ⟨gt, tv, none⟩ (.int .i64 ((1 : Nat) : Int))) from Out.setCell (F := fun k => b2 ≤ k) (Out.refl _ w8) (p := ⟨gt, tv, none⟩) (.inl M8.out.glt.2.1.1) _))
        clear hset
        go_wp2
        go_roundw
        case rel => exact ⟨j + 1, by go_num, HJ.out, HSET.out, OSET.out⟩
        case measure => have := HJ.out; simp [intOf]; omega
      · have y0 : ((y : Int) == 0) = false := by simpa using hy0
        have HK3 := Lib.hid (rb_keep (E := E) (n := n) (L := L) HF.out.2 (by rw [HY.out]; exact hy0))
        have hset := HM.out.setWait HF.out.1 (y + 1)
        rw [HS2.out, HK3.out] at hset
        have HSET := Lib.hid hset
        have OSET := Lib.hid (HO.out.then (show Out (fun k => b2 ≤ k) wr (wr.setCell ⟨gt, tv, none⟩ (.int .i64 ((y + 1 : Nat) : Int))) from Out.setCell (F := fun k => b2 ≤ k) (Out.refl _ wr) (p := ⟨gt, tv, none⟩) (.inl HM.out.glt.2.1.1) _))
        clear hset
        go_wp2
        go_roundw
        case rel => exact ⟨j + 1, by go_num, HJ.out, HSET.out, OSET.out⟩
        case measure => have := HJ.out; simp [intOf]; omega
    · obtain rfl : j = p := by omega
      have i1 : ¬ (j : Int) < (j : Int) := by omega
      have HM := Lib.hid hm
      have HO := Lib.hid (O6.out.then ho)
      have HA := Lib.hid (wb_all (E := E) HX.out.2)
      have HB := Lib.hid (rb_all (E := E) (n := n) HX.out.2 HR.out)
      clear hj hlt hm ho
      go_wp2
      go_ret
      refine ⟨rfl, ⟨gt, gr, .slice (some ⟨g, o, none⟩) k c, ?_, NW.out.out HO.out⟩, HO.out⟩
      rw [← HA.out, ← HB.out, HUS.out, HP.out]
      exact HM.out
end
end Go.Proofs.YtnpeankmmojebaaGreatDoor

/- Layer 11: all orders, the first ones first: what comes behind one. -/
namespace Go.Proofs.YtnpeankmmojebaaGreatDoor
set_option maxRecDepth 100000
set_option maxRecDepth 100000

/-- All orders that begin so, the first ones first. -/
def allP (E : Eg) (n : Nat) : Nat → List Nat → List (List Nat)
  | 0, L => if L.length = n then [L] else []
  | f + 1, L => if L.length = n then [L] else ((List.range n).filter fun v => rdyB E L v).flatMap fun v => allP E n f (L ++ [v])
/-- Those that go on with a greater one. -/
def restP (E : Eg) (n : Nat) (L : List Nat) (x : Nat) : List (List Nat) := ((List.range n).filter fun v => decide (x < v) && rdyB E L v).flatMap fun v => allP E n (n - L.length - 1) (L ++ [v])
/-- All that come behind one: M is told from its end. -/
def remR (E : Eg) (n : Nat) : List Nat → List (List Nat)
  | [] => []
  | x :: K => restP E n K.reverse x ++ remR E n K
def remP (E : Eg) (n : Nat) (M : List Nat) : List (List Nat) := remR E n M.reverse
theorem remP_nil (E : Eg) (n : Nat) : remP E n [] = [] := rfl
theorem remP_snoc (E : Eg) (n : Nat) (L : List Nat) (x : Nat) : remP E n (L ++ [x]) = restP E n L x ++ remP E n L := by
  unfold remP
  rw [List.reverse_append]
  simp [remR]
theorem filter_least {n : Nat} {p : Nat → Bool} {v : Nat} (hv : v < n) (q : Nat → Bool) (hq : ∀ u, u < v → q u = false) (hpq : q v = true) (hr : ∀ u, v < u → q u = p u) :
    (List.range n).filter q = v :: (List.range n).filter fun u => decide (v < u) && p u := by
  obtain ⟨d, rfl⟩ : ∃ d, n = v + (d + 1) := ⟨n - v - 1, by omega⟩
  rw [List.range_add, List.filter_append, List.filter_append]
  have h1 : (List.range v).filter q = [] := List.filter_eq_nil_iff.2 fun u hu => by rw [hq u (List.mem_range.1 hu)]; simp
  have h2 : ((List.range v).filter fun u => decide (v < u) && p u) = [] := List.filter_eq_nil_iff.2 fun u hu => by
    have := List.mem_range.1 hu
    simp; omega
  rw [h1, h2, List.nil_append, List.nil_append, List.range_succ_eq_map, List.map_cons, Nat.add_zero, List.filter_cons_of_pos (by simpa using hpq), List.filter_cons_of_neg (by simp)]
  congr 1
  apply List.filter_congr
  intro u hu
  simp only [List.map_map, List.mem_map, List.mem_range] at hu
  obtain ⟨a, -, rfl⟩ := hu
  have : v < v + (a + 1) := by omega
  simp only [Function.comp_apply, this, decide_true, Bool.true_and]
  exact hr _ this
section
variable {E : Eg} {n : Nat} {L M : List Nat}
theorem allP_full (hl : L.length = n) (f : Nat) : allP E n f L = [L] := by
  cases f <;> simp [allP, hl]
theorem allP_step {v : Nat} (hl : L.length ≠ n) (hv : v < n) (hr : rdyB E L v = true) (hm : ∀ u, u < v → rdyB E L u = false) (hn : L.length < n) :
    allP E n (n - L.length) L = allP E n (n - (L ++ [v]).length) (L ++ [v]) ++ restP E n L v := by
  obtain ⟨f, hf⟩ : ∃ f, n - L.length = f + 1 := ⟨n - L.length - 1, by omega⟩
  rw [hf, allP, if_neg hl, filter_least (p := fun u => rdyB E L u) hv (fun u => rdyB E L u) hm hr (fun _ _ => rfl), List.flatMap_cons]
  unfold restP
  rw [show n - L.length - 1 = f by omega, show n - (L ++ [v]).length = f by simp; omega]
/-- What is laid down to the end is the first one, and what comes behind it all others. -/
theorem FillP.first (h : FillP E n L M) (hL : LayP E n L) (hM : M.length = n) : allP E n (n - L.length) L ++ remP E n L = M :: remP E n M := by
  induction h with
  | stop h => rw [allP_full hM]; rfl
  | step h1 h2 h3 _ ih =>
    have hl2 := LayP.le (.snoc hL h1 h2)
    rw [List.length_append, List.length_singleton] at hl2
    rw [allP_step (by omega) h1 h2 h3 (by omega), List.append_assoc, ← remP_snoc]
    exact ih (.snoc hL h1 h2) hM
theorem restP_none {x : Nat} (h : ∀ u, x + 1 ≤ u → u < n → rdyB E L u = false) : restP E n L x = [] := by
  unfold restP
  rw [List.filter_eq_nil_iff.2 fun u hu => by
    by_cases hx : x < u
    · rw [h u hx (List.mem_range.1 hu)]; simp
    · simp [hx]]
  rfl
theorem restP_some {x v : Nat} (hx : x + 1 ≤ v) (hv : v < n) (hr : rdyB E L v = true) (hm : ∀ u, x + 1 ≤ u → u < v → rdyB E L u = false) :
    restP E n L x = allP E n (n - (L ++ [v]).length) (L ++ [v]) ++ restP E n L v := by
  unfold restP
  rw [filter_least (p := fun u => rdyB E L u) hv (fun u => decide (x < u) && rdyB E L u) (fun u hu => by
    by_cases hxu : x < u
    · rw [hm u hxu hu]; simp
    · simp [hxu]) (by simp [hr]; omega) (fun u hu => by simp; omega), List.flatMap_cons]
  rw [show n - (L ++ [v]).length = n - L.length - 1 by simp; omega]
/-- On to the next one. -/
theorem remP_next {x v : Nat} (h : LayP E n (L ++ [x])) (hx : x + 1 ≤ v) (hv : v < n) (hr : rdyB E L v = true) (hm : ∀ u, x + 1 ≤ u → u < v → rdyB E L u = false) (hF : FillP E n (L ++ [v]) M) (hM : M.length = n) :
    remP E n (L ++ [x]) = M :: remP E n M := by
  rw [remP_snoc, restP_some hx hv hr hm, List.append_assoc, ← remP_snoc]
  exact hF.first (.snoc h.last.1 hv hr) hM
end
end Go.Proofs.YtnpeankmmojebaaGreatDoor
