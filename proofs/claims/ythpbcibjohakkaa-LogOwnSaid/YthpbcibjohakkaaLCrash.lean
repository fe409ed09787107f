/- The law's crash, walked. -/
import Derived.Test.YthpbcibjohakkaaJBO
namespace Go.Proofs.Ythpbcibjohakkaa
set_option maxRecDepth 100000
set_option maxRecDepth 100000
open Go.RowKit

theorem LwM.anew {base w5 w9 : World} {u d L L4 k : Nat} {F G : Nat → Prop} {v mb : Value} {met over : Bool} (h : LwM base w5 u d L k F G v mb met over) (h9 : Out (fun j => j = u) w5 w9) {v' mb' : Value} {met' over' : Bool}
    (blk : w9.heap[u]? = some (.cells (LwC d L4 k v' mb' met' over') 29 (0, 0))) (hL : base.heap.size ≤ L4 ∧ L4 ≠ u) (hg : ∀ j, G j → j ≠ L4) : LwM base w9 u d L4 k F G v' mb' met' over' :=
  ⟨blk, fun j hj => ⟨(h.fs j hj).1, Nat.lt_of_lt_of_le (h.fs j hj).2.1 h9.size, (h.fs j hj).2.2⟩, fun j hj => ⟨Nat.lt_of_lt_of_le (h.gs j hj).1 h9.size, (h.gs j hj).2.1, (h.gs j hj).2.2.1, hg j hj⟩, h.u0, hL,
    h.b.trans (h9.below h.b.size fun i hi hf => by have := h.u0; omega)⟩
theorem out_drewN {F : Nat → Prop} {a b : World} (h : Out F a b) (m : Nat) : Out F a (b.drewN m) := h.then (Out.of_below (Joins.below_draws _ _ _) F)
theorem out_u2 {u : Nat} {a b : World} (h : Out (fun j => j = u) a b) (i : Nat) (v : Value) : Out (fun j => j = u) a (b.setCell ⟨u, i, none⟩ v) := h.setCell (p := ⟨u, i, none⟩) (.inl rfl) v

set_option maxHeartbeats 8000000 in
theorem lw_crash {base wr : World} {u d : Nat} {S : St} {c : Nat} (h : Lw base wr u d S c) (hc : c ≤ maxSt) (A : Option Addr) (n cap : Nat) (ks : List Int) (hk : RI wr A n ks) (hA : ∀ ad, A = some ad → 0 < n → ad.block < base.heap.size) (hn2 : n ≤ 140737488355328)
    (plan : Int) (hpl : -9223372036854775808 ≤ plan ∧ plan ≤ 9223372036854775807) :
    Calls Try.prog 11 #[.pointer (some ⟨u, 0, none⟩), .slice A n cap, .int .i64 plan] wr (LwIs base u d S c 0) := by
  obtain ⟨L, F, G, v, mb, met, over, rs, vs, hD, hfew, hal⟩ := h.any hc
  obtain ⟨Av, cv, rfl, -⟩ := hD.hv.form
  obtain ⟨k, hkk⟩ : ∃ k, areaSize S.last.length = k := ⟨_, rfl⟩
  rw [hkk] at hD
  have c0 := hD.m.c0
  have HFEW := Lib.hid (show S.pend.length < 2199023255552 by omega)
  have HFAR := Lib.hid (show Far F A n from fun ad e hp hf => by have := hA ad e hp; have := (hD.m.fs _ hf).1; omega)
  have HD := Lib.hid hD
  have HK := Lib.hid hk
  have HKK := Lib.hid hkk
  have HAL := Lib.hid hal
  clear h hD hk hkk hal hfew hA
  go_enter Try.func11, Try.ntmps11
  by_cases hcr : crashE S ks = 0
  · have C1 := Lib.hid (dcrash HD.out.pd A n cap ks HK.out HFAR.out HFEW.out hn2)
    rw [crash_ok hcr, hcr] at C1
    clear hcr
    go_upto_region 2 with (go_at_call 22; refine C1.out.mono ?_; rintro e w2 ⟨rfl, p2, o2⟩; have D2 := Lib.hid (HD.out.step p2 o2); have MB2 := Lib.hid (fun (ys : List (List Int)) (us : List Value) (hx : Recs G wr 0 mb ys us) => HD.out.keep o2 hx); clear p2 o2 C1)
    go_upto_region 4 with fail
    obtain ⟨slot, m, srs, hli, hor⟩ := HAL.out ks
    have k0 := D2.out.m.c0
    clear c0
    have P4 := Lib.hid (show Calls Try.prog 29 #[.pointer (some ⟨d, 0, none⟩), .int .i64 plan] w2 (Codes _ w2 d (planS _ plan) 0) from pplan D2.out.pd plan hpl)
    rw [planS_on (by rfl)] at P4
    go_upto_region 5 with (go_at_call 29; go_loud (refine P4.out.mono ?_; rintro e w3 ⟨rfl, p3, o3⟩; obtain ⟨F3, q3⟩ : ∃ F3, LwD base w3 u d L k (plS (crS S ks) plan) F3 G (.slice Av rs.length cv) mb met over rs vs := ⟨_, D2.out.step p3 o3⟩; have D3 := Lib.hid q3; have MB3 := Lib.hid (fun (ys : List (List Int)) (us : List Value) (hx : Recs G wr 0 mb ys us) => D2.out.keep o3 (MB2.out ys us hx)); clear p3 o3 P4 q3))
    have OP := Lib.hid (open_up D3.out.pd rfl rfl hli (fun k hk => (D3.out.m.fs k hk).2.1))
    have HOR := Lib.hid hor
    have HFW := Lib.hid (show srs.length ≤ 16384 by have h1 := usedOf_ge (srs.map (·.2)); have h2 := hli.used; have h3 := area_le hli.hi; rw [List.length_map] at h1; omega)
    obtain ⟨ops, hops⟩ : ∃ ops, srs.map (·.2) = ops := ⟨_, rfl⟩
    rw [hops] at OP HOR
    have HLO := Lib.hid (show ops.length ≤ 140737488355328 by rw [← hops, List.length_map]; have := HFW.out; omega)
    have k3_ := D3.out.m.c0
    clear k0 hor hops hli HFW
    go_upto_region 6 with (go_at_call 23; go_loud (refine OP.out.mono ?_; rintro e w4 ⟨L4, X, cx, xs, rfl, hL4, b4, r4, u4⟩; have B4 := Lib.hid b4; have R4 := Lib.hid r4; have U4 := Lib.hid u4; have HL4 := Lib.hid hL4; clear b4 r4 u4 hL4 OP))
    have D4 := Lib.hid (D3.out.below B4.out)
    have k4_ := D4.out.m.c0
    have PO := Lib.hid (poff U4.out.pd)
    rw [U4.out.off] at PO
    have P5 := Lib.hid (show Calls Try.prog 29 #[.pointer (some ⟨d, 0, none⟩), .int .i64 (-1)] w4 (Codes _ w4 d (planS _ (-1)) 0) from pplan D4.out.pd (-1) (by omega))
    rw [planS_on (by rfl)] at P5
    clear k3_
    go_upto_region 12 with (first
      | (go_at_call 30; refine PO.out.mono ?_; rintro e w' ⟨rfl, rfl⟩; clear PO)
      | (go_at_call 29; go_loud (refine P5.out.mono ?_; rintro e w5 ⟨rfl, p5, o5⟩; obtain ⟨F5, q5, hF5⟩ : ∃ F5, LwD base w5 u d L k (plS (plS (crS S ks) plan) (-1)) F5 G (.slice Av rs.length cv) mb met over rs vs ∧ ∀ j, F5 j → F3 j ∨ w4.heap.size ≤ j := ⟨_, D4.out.step p5 o5, fun j hj => hj.1⟩; have D5 := Lib.hid q5; have HF5 := Lib.hid hF5; have MB5 := Lib.hid (fun (ys : List (List Int)) (us : List Value) (hx : Recs G wr 0 mb ys us) => D4.out.keep o5 ((MB3.out ys us hx).below B4.out)); have O5 := Lib.hid o5; clear p5 o5 P5 q5 hF5)))
    have HL5 := Lib.hid (show base.heap.size ≤ L4 ∧ L4 ≠ u ∧ L4 < w4.heap.size from by have h1 := HL4.out; have h2 := D3.out.m.b.size; have h3 := D3.out.m.ult; have h4 := U4.out.llt; omega)
    have HNF := Lib.hid (show ¬ F5 L4 from fun hf => by
      rcases HF5.out _ hf with h1 | h1
      · exact U4.out.out h1
      · have := HL5.out; omega)
    have U5 := Lib.hid (U4.out.replan O5.out D5.out.pd HNF.out)
    have R5 := Lib.hid (R4.out.out O5.out (fun j hj hf => by have := (D3.out.m.fs j hf).2.1; have := HL4.out; omega))
    have HG5 := Lib.hid (show ∀ j, G j → j ≠ L4 from fun j hj e => by have h1 := (D3.out.m.gs j hj).1; have := HL4.out; omega)
    have SM := Lib.hid (rsame w5 R5.out D5.out.hv HLO.out)
    have k5_ := D5.out.m.c3
    have j5_ := D5.out.m.c5
    clear k4_
    by_cases heq : ops = rs
    · rw [decide_eq_true heq] at SM
      subst heq
      go_upto_region 18 with (go_at_call 27; go_loud (refine SM.out.mono ?_; rintro e w6 ⟨rfl, mm, hw6⟩; have HW6 := Lib.hid hw6; clear hw6 SM))
      have blk6 := Lib.hid (show w6.heap[u]? = some (.cells (LwC d L k (.slice Av ops.length cv) mb met over) 29 (0, 0)) by rw [HW6.out]; exact D5.out.m.blk)
      have O56 := Lib.hid (show Out (fun j => j = u) w5 w6 by rw [HW6.out]; exact out_drewN (Out.refl _ _) _)
      have z1 : w6.cell? ⟨u, 1, none⟩ = some (.pointer (some ⟨L, 0, none⟩)) := cell_of_row _ _ 1 _ _ _ blk6.out
      have z5 : w6.cell? ⟨u, 5, none⟩ = some (.bool met) := cell_of_row _ _ 5 _ _ _ blk6.out
      have z6 : w6.cell? ⟨u, 6, none⟩ = some (.bool over) := cell_of_row _ _ 6 _ _ _ blk6.out
      have f1 : w6.frozen? ⟨u, 1, none⟩ = false := frozen_of_row _ _ _ _ _ blk6.out
      have f5 : w6.frozen? ⟨u, 5, none⟩ = false := frozen_of_row _ _ _ _ _ blk6.out
      have f6 : w6.frozen? ⟨u, 6, none⟩ = false := frozen_of_row _ _ _ _ _ blk6.out
      clear k5_ j5_
      go_wp2
      go_ret
      have O9 := Lib.hid (out_u2 (out_u2 (out_u2 O56.out 1 (.pointer (some ⟨L4, 0, none⟩))) 6 (.bool false)) 5 (.bool false))
      have hll : (plS (plS (crS S ks) plan) (-1)).last.length = S.last.length := layAll_len _ _ _
      refine ⟨rfl, _, .inl ⟨ops, L4, F5, G, _, mb, _, by rw [hll, HKK.out]; exact D5.out.m.anew O9.out ((blk_set (blk_set (blk_set blk6.out _ _) _ _) _ _).trans rfl) ⟨HL5.out.1, HL5.out.2.1⟩ HG5.out, U5.out.stays (fun j hj hf => O9.out.block j hj (fun e => ?_)), D5.out.hv.out O9.out (fun j hj => (D5.out.m.gs j hj).2.2.1)⟩, hll, Int.le_refl _, by show S.writes ≤ _; omega, by show S.writes ≤ _; omega⟩
      rcases hf with hf | hf
      · exact (D5.out.m.fs j hf).2.2 e
      · exact HL5.out.2.1 (hf.symm.trans e)
    · rw [decide_eq_false heq] at SM
      rcases HOR.out with h1 | ⟨rfl, us, hmb⟩
      · exact absurd h1 heq
      have M5 := Lib.hid (MB5.out _ _ hmb)
      obtain ⟨Am, cm, rfl, -⟩ := hmb.form
      have HLO2 := HLO.out
      have SM2 := Lib.hid (fun mm => show Calls Try.prog 27 #[.slice X ops.length cx, .slice Am ops.length cm] (w5.drewN mm) _ from rsame (w5.drewN mm) (R5.out.drewN mm) (M5.out.drewN mm) HLO2)
      simp only [decide_true] at SM2
      clear HLO2
      go_upto_region 15 with (go_at_call 27; go_loud (refine SM.out.mono ?_; rintro e w6 ⟨rfl, mm, hw6⟩; have HW6 := Lib.hid hw6; clear hw6 SM))
      have j6_ : w6.cell? ⟨u, 5, none⟩ = some (.bool true) := by rw [HW6.out]; exact j5_
      have k6_ : w6.cell? ⟨u, 4, none⟩ = some (.slice Am ops.length cm) := by rw [HW6.out]; exact D5.out.m.c4
      have SM3 := Lib.hid (SM2.out mm)
      rw [← HW6.out] at SM3
      clear SM2 j5_ k5_
      go_upto_region 17 with (go_at_call 27; go_loud (refine SM3.out.mono ?_; rintro e w7 ⟨rfl, mm2, hw7⟩; have HW7 := Lib.hid hw7; clear hw7 SM3))
      have blk7 := Lib.hid (show w7.heap[u]? = some (.cells (LwC d L k (.slice Av rs.length cv) (.slice Am ops.length cm) true over) 29 (0, 0)) by rw [HW7.out, HW6.out]; exact D5.out.m.blk)
      have O57 := Lib.hid (show Out (fun j => j = u) w5 w7 by rw [HW7.out, HW6.out]; exact out_drewN (out_drewN (Out.refl _ _) _) _)
      have z1 : w7.cell? ⟨u, 1, none⟩ = some (.pointer (some ⟨L, 0, none⟩)) := cell_of_row _ _ 1 _ _ _ blk7.out
      have z3 : w7.cell? ⟨u, 3, none⟩ = some (.slice Av rs.length cv) := cell_of_row _ _ 3 _ _ _ blk7.out
      have z4 : w7.cell? ⟨u, 4, none⟩ = some (.slice Am ops.length cm) := cell_of_row _ _ 4 _ _ _ blk7.out
      have z5 : w7.cell? ⟨u, 5, none⟩ = some (.bool true) := cell_of_row _ _ 5 _ _ _ blk7.out
      have z6 : w7.cell? ⟨u, 6, none⟩ = some (.bool over) := cell_of_row _ _ 6 _ _ _ blk7.out
      have f1 : w7.frozen? ⟨u, 1, none⟩ = false := frozen_of_row _ _ _ _ _ blk7.out
      have f3 : w7.frozen? ⟨u, 3, none⟩ = false := frozen_of_row _ _ _ _ _ blk7.out
      have f5 : w7.frozen? ⟨u, 5, none⟩ = false := frozen_of_row _ _ _ _ _ blk7.out
      have f6 : w7.frozen? ⟨u, 6, none⟩ = false := frozen_of_row _ _ _ _ _ blk7.out
      clear j6_ k6_
      go_wp2
      go_ret
      have O9 := Lib.hid (out_u2 (out_u2 (out_u2 (out_u2 O57.out 3 (.slice Am ops.length cm)) 1 (.pointer (some ⟨L4, 0, none⟩))) 6 (.bool false)) 5 (.bool false))
      have hll : (plS (plS (crS S ks) plan) (-1)).last.length = S.last.length := layAll_len _ _ _
      refine ⟨rfl, _, .inl ⟨ops, L4, F5, G, _, .slice Am ops.length cm, _, by rw [hll, HKK.out]; exact D5.out.m.anew O9.out ((blk_set (blk_set (blk_set (blk_set blk7.out _ _) _ _) _ _) _ _).trans rfl) ⟨HL5.out.1, HL5.out.2.1⟩ HG5.out, U5.out.stays (fun j hj hf => O9.out.block j hj (fun e => ?_)), M5.out.out O9.out (fun j hj => (D5.out.m.gs j hj).2.2.1)⟩, hll, Int.le_refl _, by show S.writes ≤ _; omega, by show S.writes ≤ _; omega⟩
      rcases hf with hf | hf
      · exact (D5.out.m.fs j hf).2.2 e
      · exact HL5.out.2.1 (hf.symm.trans e)
  · obtain ⟨hcs, hce⟩ := crash_bad hcr
    have C1 := Lib.hid (dcrash HD.out.pd A n cap ks HK.out HFAR.out HFEW.out hn2)
    rw [hcs, hce] at C1
    clear hcr hcs hce
    go_upto_region 2 with (go_at_call 22; refine C1.out.mono ?_; rintro e w1 ⟨rfl, p1, o1⟩; have D1 := Lib.hid (HD.out.step p1 o1); have MB1 := Lib.hid (fun (ys : List (List Int)) (us : List Value) (hx : Recs G wr 0 mb ys us) => HD.out.keep o1 hx); clear p1 o1 C1)
    have C2 := Lib.hid (dcrash D1.out.pd none 0 0 [] (ri_none w1) (fun ad e hp => by cases e) HFEW.out (by omega))
    rw [(crash_nil S).1, (crash_nil S).2] at C2
    have k00 := D1.out.m.c0
    clear c0
    go_upto_region 4 with (go_at_call 22; refine C2.out.mono ?_; rintro e w2 ⟨rfl, p2, o2⟩; have D2 := Lib.hid (D1.out.step p2 o2); have MB2 := Lib.hid (fun (ys : List (List Int)) (us : List Value) (hx : Recs G wr 0 mb ys us) => D1.out.keep o2 (MB1.out ys us hx)); clear p2 o2 C2)
    obtain ⟨slot, m, srs, hli, hor⟩ := HAL.out []
    have k0 := D2.out.m.c0
    clear k00
    have P4 := Lib.hid (show Calls Try.prog 29 #[.pointer (some ⟨d, 0, none⟩), .int .i64 plan] w2 (Codes _ w2 d (planS _ plan) 0) from pplan D2.out.pd plan hpl)
    rw [planS_on (by rfl)] at P4
    go_upto_region 5 with (go_at_call 29; go_loud (refine P4.out.mono ?_; rintro e w3 ⟨rfl, p3, o3⟩; obtain ⟨F3, q3⟩ : ∃ F3, LwD base w3 u d L k (plS (crS S []) plan) F3 G (.slice Av rs.length cv) mb met over rs vs := ⟨_, D2.out.step p3 o3⟩; have D3 := Lib.hid q3; have MB3 := Lib.hid (fun (ys : List (List Int)) (us : List Value) (hx : Recs G wr 0 mb ys us) => D2.out.keep o3 (MB2.out ys us hx)); clear p3 o3 P4 q3))
    have OP := Lib.hid (open_up D3.out.pd rfl rfl hli (fun k hk => (D3.out.m.fs k hk).2.1))
    have HOR := Lib.hid hor
    have HFW := Lib.hid (show srs.length ≤ 16384 by have h1 := usedOf_ge (srs.map (·.2)); have h2 := hli.used; have h3 := area_le hli.hi; rw [List.length_map] at h1; omega)
    obtain ⟨ops, hops⟩ : ∃ ops, srs.map (·.2) = ops := ⟨_, rfl⟩
    rw [hops] at OP HOR
    have HLO := Lib.hid (show ops.length ≤ 140737488355328 by rw [← hops, List.length_map]; have := HFW.out; omega)
    have k3_ := D3.out.m.c0
    clear k0 hor hops hli HFW
    go_upto_region 6 with (go_at_call 23; go_loud (refine OP.out.mono ?_; rintro e w4 ⟨L4, X, cx, xs, rfl, hL4, b4, r4, u4⟩; have B4 := Lib.hid b4; have R4 := Lib.hid r4; have U4 := Lib.hid u4; have HL4 := Lib.hid hL4; clear b4 r4 u4 hL4 OP))
    have D4 := Lib.hid (D3.out.below B4.out)
    have k4_ := D4.out.m.c0
    have PO := Lib.hid (poff U4.out.pd)
    rw [U4.out.off] at PO
    have P5 := Lib.hid (show Calls Try.prog 29 #[.pointer (some ⟨d, 0, none⟩), .int .i64 (-1)] w4 (Codes _ w4 d (planS _ (-1)) 0) from pplan D4.out.pd (-1) (by omega))
    rw [planS_on (by rfl)] at P5
    clear k3_
    go_upto_region 12 with (first
      | (go_at_call 30; refine PO.out.mono ?_; rintro e w' ⟨rfl, rfl⟩; clear PO)
      | (go_at_call 29; go_loud (refine P5.out.mono ?_; rintro e w5 ⟨rfl, p5, o5⟩; obtain ⟨F5, q5, hF5⟩ : ∃ F5, LwD base w5 u d L k (plS (plS (crS S []) plan) (-1)) F5 G (.slice Av rs.length cv) mb met over rs vs ∧ ∀ j, F5 j → F3 j ∨ w4.heap.size ≤ j := ⟨_, D4.out.step p5 o5, fun j hj => hj.1⟩; have D5 := Lib.hid q5; have HF5 := Lib.hid hF5; have MB5 := Lib.hid (fun (ys : List (List Int)) (us : List Value) (hx : Recs G wr 0 mb ys us) => D4.out.keep o5 ((MB3.out ys us hx).below B4.out)); have O5 := Lib.hid o5; clear p5 o5 P5 q5 hF5)))
    have HL5 := Lib.hid (show base.heap.size ≤ L4 ∧ L4 ≠ u ∧ L4 < w4.heap.size from by have h1 := HL4.out; have h2 := D3.out.m.b.size; have h3 := D3.out.m.ult; have h4 := U4.out.llt; omega)
    have HNF := Lib.hid (show ¬ F5 L4 from fun hf => by
      rcases HF5.out _ hf with h1 | h1
      · exact U4.out.out h1
      · have := HL5.out; omega)
    have U5 := Lib.hid (U4.out.replan O5.out D5.out.pd HNF.out)
    have R5 := Lib.hid (R4.out.out O5.out (fun j hj hf => by have := (D3.out.m.fs j hf).2.1; have := HL4.out; omega))
    have HG5 := Lib.hid (show ∀ j, G j → j ≠ L4 from fun j hj e => by have h1 := (D3.out.m.gs j hj).1; have := HL4.out; omega)
    have SM := Lib.hid (rsame w5 R5.out D5.out.hv HLO.out)
    have k5_ := D5.out.m.c3
    have j5_ := D5.out.m.c5
    clear k4_
    by_cases heq : ops = rs
    · rw [decide_eq_true heq] at SM
      subst heq
      go_upto_region 18 with (go_at_call 27; go_loud (refine SM.out.mono ?_; rintro e w6 ⟨rfl, mm, hw6⟩; have HW6 := Lib.hid hw6; clear hw6 SM))
      have blk6 := Lib.hid (show w6.heap[u]? = some (.cells (LwC d L k (.slice Av ops.length cv) mb met over) 29 (0, 0)) by rw [HW6.out]; exact D5.out.m.blk)
      have O56 := Lib.hid (show Out (fun j => j = u) w5 w6 by rw [HW6.out]; exact out_drewN (Out.refl _ _) _)
      have z1 : w6.cell? ⟨u, 1, none⟩ = some (.pointer (some ⟨L, 0, none⟩)) := cell_of_row _ _ 1 _ _ _ blk6.out
      have z5 : w6.cell? ⟨u, 5, none⟩ = some (.bool met) := cell_of_row _ _ 5 _ _ _ blk6.out
      have z6 : w6.cell? ⟨u, 6, none⟩ = some (.bool over) := cell_of_row _ _ 6 _ _ _ blk6.out
      have f1 : w6.frozen? ⟨u, 1, none⟩ = false := frozen_of_row _ _ _ _ _ blk6.out
      have f5 : w6.frozen? ⟨u, 5, none⟩ = false := frozen_of_row _ _ _ _ _ blk6.out
      have f6 : w6.frozen? ⟨u, 6, none⟩ = false := frozen_of_row _ _ _ _ _ blk6.out
      clear k5_ j5_
      go_wp2
      go_ret
      have O9 := Lib.hid (out_u2 (out_u2 (out_u2 O56.out 1 (.pointer (some ⟨L4, 0, none⟩))) 6 (.bool false)) 5 (.bool false))
      have hll : (plS (plS (crS S []) plan) (-1)).last.length = S.last.length := layAll_len _ _ _
      refine ⟨rfl, _, .inl ⟨ops, L4, F5, G, _, mb, _, by rw [hll, HKK.out]; exact D5.out.m.anew O9.out ((blk_set (blk_set (blk_set blk6.out _ _) _ _) _ _).trans rfl) ⟨HL5.out.1, HL5.out.2.1⟩ HG5.out, U5.out.stays (fun j hj hf => O9.out.block j hj (fun e => ?_)), D5.out.hv.out O9.out (fun j hj => (D5.out.m.gs j hj).2.2.1)⟩, hll, Int.le_refl _, by show S.writes ≤ _; omega, by show S.writes ≤ _; omega⟩
      rcases hf with hf | hf
      · exact (D5.out.m.fs j hf).2.2 e
      · exact HL5.out.2.1 (hf.symm.trans e)
    · rw [decide_eq_false heq] at SM
      rcases HOR.out with h1 | ⟨rfl, us, hmb⟩
      · exact absurd h1 heq
      have M5 := Lib.hid (MB5.out _ _ hmb)
      obtain ⟨Am, cm, rfl, -⟩ := hmb.form
      have HLO2 := HLO.out
      have SM2 := Lib.hid (fun mm => show Calls Try.prog 27 #[.slice X ops.length cx, .slice Am ops.length cm] (w5.drewN mm) _ from rsame (w5.drewN mm) (R5.out.drewN mm) (M5.out.drewN mm) HLO2)
      simp only [decide_true] at SM2
      clear HLO2
      go_upto_region 15 with (go_at_call 27; go_loud (refine SM.out.mono ?_; rintro e w6 ⟨rfl, mm, hw6⟩; have HW6 := Lib.hid hw6; clear hw6 SM))
      have j6_ : w6.cell? ⟨u, 5, none⟩ = some (.bool true) := by rw [HW6.out]; exact j5_
      have k6_ : w6.cell? ⟨u, 4, none⟩ = some (.slice Am ops.length cm) := by rw [HW6.out]; exact D5.out.m.c4
      have SM3 := Lib.hid (SM2.out mm)
      rw [← HW6.out] at SM3
      clear SM2 j5_ k5_
      go_upto_region 17 with (go_at_call 27; go_loud (refine SM3.out.mono ?_; rintro e w7 ⟨rfl, mm2, hw7⟩; have HW7 := Lib.hid hw7; clear hw7 SM3))
      have blk7 := Lib.hid (show w7.heap[u]? = some (.cells (LwC d L k (.slice Av rs.length cv) (.slice Am ops.length cm) true over) 29 (0, 0)) by rw [HW7.out, HW6.out]; exact D5.out.m.blk)
      have O57 := Lib.hid (show Out (fun j => j = u) w5 w7 by rw [HW7.out, HW6.out]; exact out_drewN (out_drewN (Out.refl _ _) _) _)
      have z1 : w7.cell? ⟨u, 1, none⟩ = some (.pointer (some ⟨L, 0, none⟩)) := cell_of_row _ _ 1 _ _ _ blk7.out
      have z3 : w7.cell? ⟨u, 3, none⟩ = some (.slice Av rs.length cv) := cell_of_row _ _ 3 _ _ _ blk7.out
      have z4 : w7.cell? ⟨u, 4, none⟩ = some (.slice Am ops.length cm) := cell_of_row _ _ 4 _ _ _ blk7.out
      have z5 : w7.cell? ⟨u, 5, none⟩ = some (.bool true) := cell_of_row _ _ 5 _ _ _ blk7.out
      have z6 : w7.cell? ⟨u, 6, none⟩ = some (.bool over) := cell_of_row _ _ 6 _ _ _ blk7.out
      have f1 : w7.frozen? ⟨u, 1, none⟩ = false := frozen_of_row _ _ _ _ _ blk7.out
      have f3 : w7.frozen? ⟨u, 3, none⟩ = false := frozen_of_row _ _ _ _ _ blk7.out
      have f5 : w7.frozen? ⟨u, 5, none⟩ = false := frozen_of_row _ _ _ _ _ blk7.out
      have f6 : w7.frozen? ⟨u, 6, none⟩ = false := frozen_of_row _ _ _ _ _ blk7.out
      clear j6_ k6_
      go_wp2
      go_ret
      have O9 := Lib.hid (out_u2 (out_u2 (out_u2 (out_u2 O57.out 3 (.slice Am ops.length cm)) 1 (.pointer (some ⟨L4, 0, none⟩))) 6 (.bool false)) 5 (.bool false))
      have hll : (plS (plS (crS S []) plan) (-1)).last.length = S.last.length := layAll_len _ _ _
      refine ⟨rfl, _, .inl ⟨ops, L4, F5, G, _, .slice Am ops.length cm, _, by rw [hll, HKK.out]; exact D5.out.m.anew O9.out ((blk_set (blk_set (blk_set (blk_set blk7.out _ _) _ _) _ _) _ _).trans rfl) ⟨HL5.out.1, HL5.out.2.1⟩ HG5.out, U5.out.stays (fun j hj hf => O9.out.block j hj (fun e => ?_)), M5.out.out O9.out (fun j hj => (D5.out.m.gs j hj).2.2.1)⟩, hll, Int.le_refl _, by show S.writes ≤ _; omega, by show S.writes ≤ _; omega⟩
      rcases hf with hf | hf
      · exact (D5.out.m.fs j hf).2.2 e
      · exact HL5.out.2.1 (hf.symm.trans e)
end Go.Proofs.Ythpbcibjohakkaa
