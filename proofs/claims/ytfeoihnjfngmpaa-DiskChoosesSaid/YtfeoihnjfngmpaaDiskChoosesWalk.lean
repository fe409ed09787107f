/- The walk of DiskChooses: true whatever comes in. -/
import Derived.Test.YtfeoihnjfngmpaaDChoosesMath
namespace Go.Proofs.Ytfeoihnjfngmpaa
open Go.RowKit

set_option maxRecDepth 100000 in
set_option maxHeartbeats 4000000 in
theorem walk_DiskChooses (A0 : Option Addr) (n0 c0 : Nat) (z0 : List Int) (A1 : Option Addr) (n1 c1 : Nat) (z1 : List Int) (A2 : Option Addr) (n2 c2 : Nat) (z2 : List OpD) (A3 : Option Addr) (n3 c3 : Nat) (z3 : List Int) (w : World) (h0 : RB w A0 n0 z0) (hn0 : n0 ≤ c0) (hc0 : c0 ≤ 140737488351232) (h1 : RI w A1 n1 z1) (hn1 : n1 ≤ c1) (hc1 : c1 ≤ 17592186043904)
    (h2 : RO w A2 n2 z2) (hn2 : n2 ≤ c2) (hc2 : c2 ≤ 2199023255488) (h3 : RI w A3 n3 z3) (hn3 : n3 ≤ c3) (hc3 : c3 ≤ 17592186043904) :
    Calls Try.prog 6 #[.slice A0 n0 c0, .slice A1 n1 c1, .slice A2 n2 c2, .slice A3 n3 c3] w fun e w' => e = .returned (.bool true) ∧ Below w.heap.size w w' := by
  have cb := begun_true w
  have HL2 := Lib.hid h2.len
  go_enter Try.func6, Try.ntmps6
  go_upto_region 3 with (go_at_call 20; refine cb.mono ?_; rintro e w1 ⟨rfl, b1⟩; have B1 := Lib.hid b1; clear b1 cb)
  have cl := dload w1 A0 n0 c0 z0 (h0.below' B1.out) hn0 (by omega) A1 n1 c1 z1 (h1.below B1.out) (by omega)
  by_cases hgood : loadGood z0 z1
  · go_upto_region 6 with (go_at_call 18; refine cl.mono ?_; rintro e w2 (⟨h, -, -⟩ | ⟨-, d, rfl, hp, b2⟩); exact absurd hgood h; have M2 := Lib.hid (show LM w w2 d (loadS z0 z1) (fun j => w1.heap.size ≤ j ∧ j < w2.heap.size) from ⟨hp.shut, fun j hj => ⟨Nat.le_trans B1.out.size hj.1, hj.2⟩, B1.out.trans (b2.mono B1.out.size)⟩); clear hp b2 cl)
    obtain ⟨L0, hL0⟩ : ∃ L, L = (loadS z0 z1).last := ⟨_, rfl⟩
    have M2b := Lib.hid (show LM w w2 d ⟨L0, [], false, -1, 0, 0⟩ (fun j => w1.heap.size ≤ j ∧ j < w2.heap.size) by rw [hL0]; exact M2.out)
    clear hL0 M2 hgood
    obtain ⟨b, hb⟩ : ∃ b, b = L0.length := ⟨_, rfl⟩
    have HB := Lib.hid hb
    have hlo : 1 ≤ b := by rw [hb]; exact M2b.out.pd.wf.lo
    have hhi : b ≤ 16384 := by rw [hb]; exact M2b.out.pd.wf.hi
    have LB := Lib.hid (show ∀ c ∈ L0, B64 c.b from M2b.out.pd.wf.lb)
    have cbk := pblocks M2b.out.pd
    have lw := lwrites (S := ⟨L0, [], false, -1, 0, 0⟩) (w0 := w) M2b.out.pd (fun j hj => (M2b.out.fs j hj).1) M2b.out.b rfl rfl A2 n2 c2 z2 h2 hn2 hc2 (by show 0 + n2 < _; omega)
    obtain ⟨P, hP⟩ : ∃ P, P = wrPend [] b z2 := ⟨_, rfl⟩
    have hPl : P.length ≤ 2199023255488 := by rw [hP]; have := wrPend_len b z2 []; rw [h2.len] at this; simp at this; omega
    simp only [← hb] at lw cbk
    have HP := Lib.hid hP
    have HPL := Lib.hid hPl
    clear hP hPl hb
    go_upto_region 9 with (first
      | (go_at_call 27; refine cbk.mono ?_; rintro e w3 ⟨rfl, rfl⟩)
      | (go_at_call 21; go_loud (refine lw.mono ?_; rintro e w3 ⟨F3, gA, vsA, cA, hE, p3, f3, o3, ga3, r3⟩; obtain rfl : e = .returned (.tuple #[.slice (some ⟨gA, 0, none⟩) b b, .bool true]) := (by rw [hE]; show Ending.returned (.tuple #[.slice _ L0.length L0.length, _]) = _; rw [← HB.out]); have M3 := Lib.hid (show LM w w3 d ⟨L0, P, false, -1, cA, 0⟩ F3 from ⟨by rw [HP.out, HB.out]; exact p3, fun j hj => ⟨by rcases (f3 j hj).1 with h | h; exact (M2b.out.fs j h).1; exact Nat.le_trans M2b.out.b.size h, (f3 j hj).2⟩, M2b.out.b.trans (o3.below M2b.out.b.size (fun i hi hf => by have := (M2b.out.fs i hf).1; omega))⟩); clear p3 f3 o3 r3 ga3 lw)))
    have HLEN0 := Lib.hid (show L0.length = b from HB.out.symm)
    have ci := dimage M3.out.pd
    go_upto_region 10 with (go_at_call 28; refine ci.mono ?_; intro e w4 hI; obtain ⟨g4, cap4, A4, n4, c4, hE, I4, b4⟩ := image_at hI (by show 1 ≤ L0.length; rw [HLEN0.out]; exact hlo) (by show L0.length ≤ _; rw [HLEN0.out]; exact hhi) LB.out; obtain rfl : e = .returned (.tuple #[.slice (some ⟨g4, 0, none⟩) (b * 64) cap4, .slice A4 n4 c4]) := (by rw [hE]; show _ = Ending.returned (.tuple #[.slice (some ⟨g4, 0, none⟩) (b * 64) cap4, _]); rw [← HLEN0.out]); have M4 := Lib.hid (M3.out.below b4); have I4h := Lib.hid I4; have HF4 := Lib.hid (fun j hj => (M3.out.fs j hj).2); clear hE I4 hI b4 ci)
    have cp := dpending M4.out.pd (by show P.length < _; have := HPL.out; omega)
    go_upto_region 11 with (go_at_call 22; refine cp.mono ?_; rintro e w5 ⟨Lp, Gp, hE, pr5, b5⟩; obtain rfl : e = .returned (.slice (some ⟨w4.heap.size, 0, none⟩) P.length P.length) := hE; have M5 := Lib.hid (M4.out.below b5); have I5 := Lib.hid (I4h.out.below b5); have P5 := Lib.hid (show PRow w5 w4.heap.size P.length P P.length Lp Gp from pr5); have HS4 := Lib.hid (show w3.heap.size ≤ w4.heap.size by have := I4h.out.g1; have := (rb_spot I4h.out.rb (by rw [HLEN0.out]; omega)).2; simp at this; omega); clear pr5 b5 cp M4 I4h)
    have cc := dcrash M5.out.pd A3 n3 c3 z3 (h3.below M5.out.b) (fun ad e hpos hf => by
        obtain ⟨bb, o, e2, hc⟩ := h3.cell hpos
        rw [e2] at e; cases e
        have := World.block_lt_of_cell? w _ (hc 0 hpos)
        have := (M5.out.fs _ hf).1
        simp at *; omega) (by show P.length < _; have := HPL.out; omega) (by omega)
    have HPB := Lib.hid (show ∀ x ∈ P, B64 x.b from M5.out.pd.wf.pb)
    rcases crash_cases ⟨L0, P, false, -1, cA, 0⟩ z3 rfl rfl with ⟨e1, e2⟩ | ⟨e1, e2⟩
    · rw [e1, e2] at cc
      clear e1 e2
      go_upto_region 13 with (go_at_call 23; refine cc.mono ?_; rintro e w6 ⟨rfl, p6, o6⟩; have M6 := Lib.hid (M5.out.step p6 o6); have P6 := Lib.hid (P5.out.step_ o6 (fun j hj => Nat.lt_of_lt_of_le (HF4.out j hj) HS4.out)); clear p6 o6 cc)
      have cp2 := dpending M6.out.pd (by show P.length < _; have := HPL.out; omega)
      go_wp2_with (first
        | (go_at_call 22; refine cp2.mono ?_; rintro e w7 ⟨Lq, Gq, hE, pr7, b7⟩; obtain rfl : e = .returned (.slice (some ⟨w6.heap.size, 0, none⟩) P.length P.length) := hE; have B7 := Lib.hid b7; have P7 := Lib.hid (show PRow w7 w6.heap.size P.length P P.length Lq Gq from pr7); have P67 := Lib.hid (P6.out.stays (fun j _ hj => b7.block j hj) b7.size); clear b7 pr7 cp2)
        | (go_at_call 29; refine (lpend P7.out P67.out HPB.out rfl (by have := HPL.out; omega)).mono ?_; rintro e w8 ⟨rfl, m8, rfl⟩))
      go_ret
      exact ⟨rfl, (M6.out.b.trans (B7.out.mono M6.out.b.size)).trans ((Joins.below_draws _ _ _).mono (by have := M6.out.b.size; have := B7.out.size; omega))⟩
    · rw [e1, e2] at cc
      clear e1 e2
      obtain ⟨L8, hL8⟩ : ∃ L, L = layAll L0 P z3 := ⟨_, rfl⟩
      have HL8 := Lib.hid hL8
      have hl8 : L8.length = b := by rw [hL8, layAll_len]; exact HLEN0.out
      rw [show layAll ({ last := L0, pend := P, off := false, plan := -1, writes := cA, syncs := 0 } : St).last ({ last := L0, pend := P, off := false, plan := -1, writes := cA, syncs := 0 } : St).pend z3 = L8 from hL8.symm] at cc
      have HLEN8 := Lib.hid hl8
      clear hL8 hl8
      go_upto_region 14 with (go_at_call 23; refine cc.mono ?_; rintro e w6 ⟨rfl, p6, o6⟩; have M6 := Lib.hid (show LM w w6 d ⟨L8, [], false, -1, cA, 0⟩ _ from M5.out.step p6 o6); have P6 := Lib.hid (P5.out.step_ o6 (fun j hj => Nat.lt_of_lt_of_le (HF4.out j hj) HS4.out)); have I6 := Lib.hid (I5.out.step o6 HF4.out); clear p6 o6 cc)
      have LB8 := Lib.hid (show ∀ c ∈ L8, B64 c.b from M6.out.pd.wf.lb)
      have ci := dimage M6.out.pd
      go_upto_region 15 with (go_at_call 28; refine ci.mono ?_; intro e w7 hI; obtain ⟨g7, cap7, A7, n7, c7, hE, I7, b7⟩ := image_at hI (by show 1 ≤ L8.length; rw [HLEN8.out]; exact hlo) (by show L8.length ≤ _; rw [HLEN8.out]; exact hhi) LB8.out; obtain rfl : e = .returned (.tuple #[.slice (some ⟨g7, 0, none⟩) (b * 64) cap7, .slice A7 n7 c7]) := (by rw [hE]; show _ = Ending.returned (.tuple #[.slice (some ⟨g7, 0, none⟩) (b * 64) cap7, _]); rw [← HLEN8.out]); have M7 := Lib.hid (M6.out.below b7); have J7 := Lib.hid I7; have I7w := Lib.hid (I6.out.below b7); have P7 := Lib.hid (P6.out.stays (fun j _ hj => b7.block j hj) b7.size); clear hE I7 hI b7 ci M6 I6 P6)
      have cbk := pblocks M7.out.pd
      rw [show (({ last := L8, pend := [], off := false, plan := -1, writes := cA, syncs := 0 } : St).last.length : Int) = (b : Int) by show (L8.length : Int) = _; rw [HLEN8.out]] at cbk
      go_upto_region 16 with (go_at_call 27; refine cbk.mono ?_; rintro e w8 ⟨rfl, rfl⟩)
      clear cbk
      go_loopw [75] (fun i wr => ∃ k : Nat, i = .int .i64 (k : Nat) ∧ k ≤ b ∧ Below w7.heap.size w7 wr) (fun i _ => b - (intOf i).toNat)
      case atStart => exact ⟨0, rfl, Nat.zero_le _, Below.refl _ _⟩
      case round =>
        obtain ⟨k, rfl, hk, hB⟩ := hrel
        by_cases hlt : k < b
        · have hki : (k : Int) < (b : Int) := by omega
          obtain ⟨c, hc⟩ : ∃ c, L0[k]? = some c := ⟨_, List.getElem?_eq_getElem (by rw [HLEN0.out]; exact hlt)⟩
          obtain ⟨c', hc'⟩ : ∃ c, L8[k]? = some c := ⟨_, List.getElem?_eq_getElem (by rw [HLEN8.out]; exact hlt)⟩
          have IA := Lib.hid (I7w.out.below hB)
          have JA := Lib.hid (J7.out.below hB)
          have PA := Lib.hid (P7.out.stays (fun j _ hj => hB.block j hj) hB.size)
          have HBR := Lib.hid hB
          have HK := Lib.hid hlt
          have HC := Lib.hid hc
          have HC' := Lib.hid hc'
          have cap4a : b * 64 ≤ cap4 := by rw [← HLEN0.out]; exact I7w.out.cap1
          have cap7a : b * 64 ≤ cap7 := by rw [← HLEN8.out]; exact J7.out.cap1
          have cap4b := I7w.out.cap2
          have cap7b := J7.out.cap2
          have hs1 : ¬ ((b : Int) * 64 < ((k : Int) + 1) * 64) := by omega
          have hs2 : decide ((b : Int) * 64 < ((k : Int) + 1) * 64) = false := by simp; omega
          clear hB hc hc'
          go_upto_region 22 with (go_at_call 30; refine (JA.out.has HC'.out _).mono ?_; rintro e w9 ⟨rfl, rfl⟩)
          go_cut [22] (fun t22 wr => t22 = .bool (decide (c'.b = c.b) && (c'.t == c.t)) ∧ Below w7.heap.size w7 wr)
          case first =>
            by_cases hbb : c'.b = c.b
            · go_quiet ((first | (go_at_call 26; exact Calls.quiet_of_same (lalike_same _ _ ((JA.out.drewN _).part' HC'.out (by omega)) (by rw [hbb]; exact (IA.out.drewN _).part' HC.out (by omega)))) | (go_at_call 30; exact Calls.quiet_of_same ((IA.out.drewN _).has HC.out _))))
              go_wp2
              go_meet
              exact ⟨by simp [hbb], HBR.out.trans ((Joins.below_draws _ _ _).mono HBR.out.size)⟩
            · go_quiet ((go_at_call 26; exact Calls.quiet_of_same (lalike_not _ _ ((JA.out.drewN _).part' HC'.out (by omega)) ((IA.out.drewN _).part' HC.out (by omega)) hbb)))
              go_wp2
              go_meet
              exact ⟨by simp [hbb], HBR.out.trans ((Joins.below_draws _ _ _).mono HBR.out.size)⟩
          case rest =>
            obtain ⟨rfl, hBc⟩ := hcut
            obtain ⟨s0, hs0⟩ : ∃ s0, s0 = (decide (c'.b = c.b) && (c'.t == c.t)) := ⟨_, rfl⟩
            obtain ⟨gb, hgb⟩ : ∃ gb, gb = c'.t := ⟨_, rfl⟩
            rw [← hs0, ← hgb]
            have HS0 := Lib.hid hs0
            have HGB := Lib.hid hgb
            have HBC := Lib.hid hBc
            clear hs0 hBc IA JA PA HBR hgb
            go_wp2
            go_loopw [22, 23, 114] (fun v22 v23 i wr => ∃ j : Nat, i = .int .i64 (j : Nat) ∧ j ≤ P.length ∧ v22 = .bool (sameB s0 gb c'.b P j (k : Int)) ∧ v23 = .bool (pendB P j (k : Int)) ∧ Below w7.heap.size w7 wr) (fun _ _ i _ => P.length - (intOf i).toNat)
            case atStart => exact ⟨0, rfl, Nat.zero_le _, by rw [sameB_zero], by rw [pendB_zero], HBC.out⟩
            case round =>
              obtain ⟨j, rfl, hj, rfl, rfl, hB⟩ := hrel
              obtain ⟨sb, hsb⟩ : ∃ sb, sb = sameB s0 gb c'.b P j (k : Int) := ⟨_, rfl⟩
              obtain ⟨pb, hpb⟩ : ∃ pb, pb = pendB P j (k : Int) := ⟨_, rfl⟩
              rw [← hsb, ← hpb]
              have HSB := Lib.hid hsb
              have HPBJ := Lib.hid hpb
              clear hsb hpb
              by_cases hjt : j < P.length
              · obtain ⟨x, hx⟩ : ∃ x, P[j]? = some x := ⟨_, List.getElem?_eq_getElem hjt⟩
                obtain ⟨bx, p1, p2, p3, -, -⟩ := (P7.out.stays (w' := wr) (fun j _ hj => hB.block j hj) hB.size).cells_ hjt x hx (HPB.out x (List.mem_of_getElem? hx))
                obtain ⟨p, hp⟩ : ∃ p, p = x.p := ⟨_, rfl⟩
                rw [← hp] at p1
                have HR := Lib.hid (show wr.rangeAt w4.heap.size (j * 2) [.int .i64 (p : Int), .slice (some ⟨bx, 0, none⟩) 64 64] from fun i v hv => by
                  rcases i with _ | _ | i
                  · simp at hv; subst hv; exact p1
                  · simp at hv; subst hv; exact p2
                  · simp at hv)
                have HI := Lib.hid (show (Try.prog.info? 64).map (·.size) = some [Value.int .i64 (p : Int), .slice (some ⟨bx, 0, none⟩) 64 64].length by rfl)
                obtain ⟨W1, hW1⟩ : ∃ W, W = wr.alloc (.cells #[.int .i64 (p : Int), .slice (some ⟨bx, 0, none⟩) 64 64] 64) := ⟨_, rfl⟩
                have q0 : W1.heap[wr.heap.size]? = some (.cells #[.int .i64 (p : Int), .slice (some ⟨bx, 0, none⟩) 64 64] 64 (0, 0)) := by rw [hW1]; exact heap_alloc_new _ _
                have hbw : Below wr.heap.size wr W1 := by rw [hW1]; exact (Below.refl _ _).alloc (Nat.le_refl _) _
                have a0 : W1.cell? ⟨wr.heap.size, 0, none⟩ = some (.int .i64 (p : Int)) := by rw [cell_of_row _ _ _ _ _ _ q0]; rfl
                have a1 : W1.cell? ⟨wr.heap.size, 1, none⟩ = some (.slice (some ⟨bx, 0, none⟩) 64 64) := by rw [cell_of_row _ _ _ _ _ _ q0]; rfl
                have hW1r := hW1.symm
                have HX := Lib.hid hx
                have HPX := Lib.hid hp
                have HBW := Lib.hid (hB.trans (hbw.mono hB.size))
                have RX := Lib.hid (p3.below' hbw)
                have JW := Lib.hid (J7.out.below (hB.trans (hbw.mono hB.size)))
                have hjp : (j : Int) < (P.length : Int) := by omega
                have HJT := Lib.hid hjt
                have hPl := HPL.out
                clear hx hp p1 p2 p3 hB hbw hW1 q0
                by_cases hpk : p = k
                · subst hpk
                  cases pb with
                  | true =>
                    cases sb with
                    | true =>
                      go_upto_region 28 with (with_reducible refine wpList_load_mid rfl 64 (.tmp 116) rfl w4.heap.size (j * 2) rfl [.int .i64 (p : Int), .slice (some ⟨bx, 0, none⟩) 64 64] _ HR.out Try.underlying64 rfl HI.out ?_)
                      go_quiet (fail)
                      go_wp2
                      go_roundw
                      case rel => exact ⟨j + 1, by go_num, HJT.out, by rw [sameB_step HX.out, ← HSB.out, ← HPX.out]; simp, by rw [pendB_step HX.out, ← HPBJ.out, ← HPX.out]; simp, HBW.out.trans ((Joins.below_draws _ _ _).mono HBW.out.size)⟩
                      case measure => simp [intOf]; omega
                    | false =>
                      cases gb with
                      | true =>
                        go_upto_region 28 with (with_reducible refine wpList_load_mid rfl 64 (.tmp 116) rfl w4.heap.size (j * 2) rfl [.int .i64 (p : Int), .slice (some ⟨bx, 0, none⟩) 64 64] _ HR.out Try.underlying64 rfl HI.out ?_)
                        go_quiet (fail)
                        go_wp2
                        go_roundw
                        case rel => exact ⟨j + 1, by go_num, HJT.out, by rw [sameB_step HX.out, ← HSB.out, ← HPX.out]; simp, by rw [pendB_step HX.out, ← HPBJ.out, ← HPX.out]; simp, HBW.out.trans ((Joins.below_draws _ _ _).mono HBW.out.size)⟩
                        case measure => simp [intOf]; omega
                      | false =>
                        by_cases heq : x.b = c'.b
                        · have HEQ := Lib.hid heq
                          clear heq
                          go_upto_region 28 with (with_reducible refine wpList_load_mid rfl 64 (.tmp 116) rfl w4.heap.size (j * 2) rfl [.int .i64 (p : Int), .slice (some ⟨bx, 0, none⟩) 64 64] _ HR.out Try.underlying64 rfl HI.out ?_)
                          go_quiet ((go_at_call 26; exact Calls.quiet_of_same (lalike_same 64 _ (RX.out.drewN _) (by rw [HEQ.out]; exact (JW.out.drewN _).part' HC'.out (by omega)))))
                          go_wp2
                          go_roundw
                          case rel => exact ⟨j + 1, by go_num, HJT.out, by rw [sameB_step HX.out, ← HSB.out, ← HPX.out]; simp [HEQ.out], by rw [pendB_step HX.out, ← HPBJ.out, ← HPX.out]; simp [HEQ.out], HBW.out.trans ((Joins.below_draws _ _ _).mono HBW.out.size)⟩
                          case measure => simp [intOf]; omega
                        · have HNE := Lib.hid heq
                          clear heq
                          go_upto_region 28 with (with_reducible refine wpList_load_mid rfl 64 (.tmp 116) rfl w4.heap.size (j * 2) rfl [.int .i64 (p : Int), .slice (some ⟨bx, 0, none⟩) 64 64] _ HR.out Try.underlying64 rfl HI.out ?_)
                          go_quiet ((go_at_call 26; exact Calls.quiet_of_same (lalike_not 64 _ (RX.out.drewN _) ((JW.out.drewN _).part' HC'.out (by omega)) HNE.out)))
                          go_wp2
                          go_roundw
                          case rel => exact ⟨j + 1, by go_num, HJT.out, by rw [sameB_step HX.out, ← HSB.out, ← HPX.out]; simp [HNE.out], by rw [pendB_step HX.out, ← HPBJ.out, ← HPX.out]; simp [HNE.out], HBW.out.trans ((Joins.below_draws _ _ _).mono HBW.out.size)⟩
                          case measure => simp [intOf]; omega
                  | false =>
                    cases sb with
                    | true =>
                      go_upto_region 28 with (with_reducible refine wpList_load_mid rfl 64 (.tmp 116) rfl w4.heap.size (j * 2) rfl [.int .i64 (p : Int), .slice (some ⟨bx, 0, none⟩) 64 64] _ HR.out Try.underlying64 rfl HI.out ?_)
                      go_quiet (fail)
                      go_wp2
                      go_roundw
                      case rel => exact ⟨j + 1, by go_num, HJT.out, by rw [sameB_step HX.out, ← HSB.out, ← HPX.out]; simp, by rw [pendB_step HX.out, ← HPBJ.out, ← HPX.out]; simp, HBW.out.trans ((Joins.below_draws _ _ _).mono HBW.out.size)⟩
                      case measure => simp [intOf]; omega
                    | false =>
                      cases gb with
                      | true =>
                        go_upto_region 28 with (with_reducible refine wpList_load_mid rfl 64 (.tmp 116) rfl w4.heap.size (j * 2) rfl [.int .i64 (p : Int), .slice (some ⟨bx, 0, none⟩) 64 64] _ HR.out Try.underlying64 rfl HI.out ?_)
                        go_quiet (fail)
                        go_wp2
                        go_roundw
                        case rel => exact ⟨j + 1, by go_num, HJT.out, by rw [sameB_step HX.out, ← HSB.out, ← HPX.out]; simp, by rw [pendB_step HX.out, ← HPBJ.out, ← HPX.out]; simp, HBW.out.trans ((Joins.below_draws _ _ _).mono HBW.out.size)⟩
                        case measure => simp [intOf]; omega
                      | false =>
                        by_cases heq : x.b = c'.b
                        · have HEQ := Lib.hid heq
                          clear heq
                          go_upto_region 28 with (with_reducible refine wpList_load_mid rfl 64 (.tmp 116) rfl w4.heap.size (j * 2) rfl [.int .i64 (p : Int), .slice (some ⟨bx, 0, none⟩) 64 64] _ HR.out Try.underlying64 rfl HI.out ?_)
                          go_quiet ((go_at_call 26; exact Calls.quiet_of_same (lalike_same 64 _ (RX.out.drewN _) (by rw [HEQ.out]; exact (JW.out.drewN _).part' HC'.out (by omega)))))
                          go_wp2
                          go_roundw
                          case rel => exact ⟨j + 1, by go_num, HJT.out, by rw [sameB_step HX.out, ← HSB.out, ← HPX.out]; simp [HEQ.out], by rw [pendB_step HX.out, ← HPBJ.out, ← HPX.out]; simp [HEQ.out], HBW.out.trans ((Joins.below_draws _ _ _).mono HBW.out.size)⟩
                          case measure => simp [intOf]; omega
                        · have HNE := Lib.hid heq
                          clear heq
                          go_upto_region 28 with (with_reducible refine wpList_load_mid rfl 64 (.tmp 116) rfl w4.heap.size (j * 2) rfl [.int .i64 (p : Int), .slice (some ⟨bx, 0, none⟩) 64 64] _ HR.out Try.underlying64 rfl HI.out ?_)
                          go_quiet ((go_at_call 26; exact Calls.quiet_of_same (lalike_not 64 _ (RX.out.drewN _) ((JW.out.drewN _).part' HC'.out (by omega)) HNE.out)))
                          go_wp2
                          go_roundw
                          case rel => exact ⟨j + 1, by go_num, HJT.out, by rw [sameB_step HX.out, ← HSB.out, ← HPX.out]; simp [HNE.out], by rw [pendB_step HX.out, ← HPBJ.out, ← HPX.out]; simp [HNE.out], HBW.out.trans ((Joins.below_draws _ _ _).mono HBW.out.size)⟩
                          case measure => simp [intOf]; omega
                · have hpk2 : ((p : Int) == (k : Int)) = false := by simpa using (show ¬ (p : Int) = (k : Int) by omega)
                  have HPK := Lib.hid hpk
                  clear hpk
                  cases pb with
                  | true =>
                    cases sb with
                    | true =>
                      go_upto_region 28 with (with_reducible refine wpList_load_mid rfl 64 (.tmp 116) rfl w4.heap.size (j * 2) rfl [.int .i64 (p : Int), .slice (some ⟨bx, 0, none⟩) 64 64] _ HR.out Try.underlying64 rfl HI.out ?_)
                      go_quiet (fail)
                      go_wp2
                      go_roundw
                      case rel => exact ⟨j + 1, by go_num, HJT.out, by rw [sameB_step HX.out, ← HSB.out, ← HPX.out]; simp [show ¬ ((p : Int) = (k : Int)) by have := HPK.out; omega], by rw [pendB_step HX.out, ← HPBJ.out, ← HPX.out]; simp [show ¬ ((p : Int) = (k : Int)) by have := HPK.out; omega], HBW.out.trans ((Joins.below_draws _ _ _).mono HBW.out.size)⟩
                      case measure => simp [intOf]; omega
                    | false =>
                      go_upto_region 28 with (with_reducible refine wpList_load_mid rfl 64 (.tmp 116) rfl w4.heap.size (j * 2) rfl [.int .i64 (p : Int), .slice (some ⟨bx, 0, none⟩) 64 64] _ HR.out Try.underlying64 rfl HI.out ?_)
                      go_quiet (fail)
                      go_wp2
                      go_roundw
                      case rel => exact ⟨j + 1, by go_num, HJT.out, by rw [sameB_step HX.out, ← HSB.out, ← HPX.out]; simp [show ¬ ((p : Int) = (k : Int)) by have := HPK.out; omega], by rw [pendB_step HX.out, ← HPBJ.out, ← HPX.out]; simp [show ¬ ((p : Int) = (k : Int)) by have := HPK.out; omega], HBW.out.trans ((Joins.below_draws _ _ _).mono HBW.out.size)⟩
                      case measure => simp [intOf]; omega
                  | false =>
                    cases sb with
                    | true =>
                      go_upto_region 28 with (with_reducible refine wpList_load_mid rfl 64 (.tmp 116) rfl w4.heap.size (j * 2) rfl [.int .i64 (p : Int), .slice (some ⟨bx, 0, none⟩) 64 64] _ HR.out Try.underlying64 rfl HI.out ?_)
                      go_quiet (fail)
                      go_wp2
                      go_roundw
                      case rel => exact ⟨j + 1, by go_num, HJT.out, by rw [sameB_step HX.out, ← HSB.out, ← HPX.out]; simp [show ¬ ((p : Int) = (k : Int)) by have := HPK.out; omega], by rw [pendB_step HX.out, ← HPBJ.out, ← HPX.out]; simp [show ¬ ((p : Int) = (k : Int)) by have := HPK.out; omega], HBW.out.trans ((Joins.below_draws _ _ _).mono HBW.out.size)⟩
                      case measure => simp [intOf]; omega
                    | false =>
                      go_upto_region 28 with (with_reducible refine wpList_load_mid rfl 64 (.tmp 116) rfl w4.heap.size (j * 2) rfl [.int .i64 (p : Int), .slice (some ⟨bx, 0, none⟩) 64 64] _ HR.out Try.underlying64 rfl HI.out ?_)
                      go_quiet (fail)
                      go_wp2
                      go_roundw
                      case rel => exact ⟨j + 1, by go_num, HJT.out, by rw [sameB_step HX.out, ← HSB.out, ← HPX.out]; simp [show ¬ ((p : Int) = (k : Int)) by have := HPK.out; omega], by rw [pendB_step HX.out, ← HPBJ.out, ← HPX.out]; simp [show ¬ ((p : Int) = (k : Int)) by have := HPK.out; omega], HBW.out.trans ((Joins.below_draws _ _ _).mono HBW.out.size)⟩
                      case measure => simp [intOf]; omega
              · obtain rfl : j = P.length := by omega
                have hse : sb = true := by rw [HSB.out, HS0.out, HGB.out]; exact same_end HC.out (by rw [← HL8.out]; exact HC'.out)
                subst hse
                have hh := (I7w.out.below hB).has HC.out c4
                have hpe : pb = false → c.t = gb := fun h => by rw [HGB.out, pend_end HC.out (show (layAll L0 P z3)[k]? = some c' by rw [← HL8.out]; exact HC'.out) (by rw [← HPBJ.out]; exact h)]
                have HPE := Lib.hid hpe
                have cr := dread (M7.out.below hB).pd (k : Int) (by show 0 < _; omega)
                have HBX := Lib.hid hB
                clear hB hpe
                cases gb with
                | true =>
                  rw [read_torn (S := ⟨L8, [], false, -1, cA, 0⟩) rfl rfl HC'.out HGB.out.symm] at cr
                  cases pb with
                  | true =>
                    clear hh
                    go_wp2_with (go_at_call 25; refine cr.mono ?_; rintro e w10 (⟨-, -, hE, hw⟩ | ⟨h0, -⟩); rotate_left; exact absurd h0 (by decide); obtain rfl : e = .returned (.tuple #[.slice none 0 0, .int .i64 23]) := hE; have BB := Lib.hid (show Below w7.heap.size w7 w10 by rw [← hw]; exact HBX.out); clear cr hw)
                    go_roundw
                    case rel => exact ⟨k + 1, by go_num, HK.out, BB.out⟩
                    case measure => simp [intOf]; omega
                  | false =>
                    rw [HPE.out rfl] at hh
                    go_wp2_with (first | (go_at_call 25; refine cr.mono ?_; rintro e w10 (⟨-, -, hE, hw⟩ | ⟨h0, -⟩); rotate_left; exact absurd h0 (by decide); obtain rfl : e = .returned (.tuple #[.slice none 0 0, .int .i64 23]) := hE; have BB := Lib.hid (show Below w7.heap.size w7 w10 by rw [← hw]; exact HBX.out); clear cr hw) | (go_at_call 30; refine hh.mono ?_; rintro e w10 ⟨rfl, hw⟩; have hw2 := hw.symm; subst hw2; clear hh))
                    go_roundw
                    case rel => exact ⟨k + 1, by go_num, HK.out, BB.out⟩
                    case measure => simp [intOf]; omega
                | false =>
                  rw [read_clean (S := ⟨L8, [], false, -1, cA, 0⟩) rfl rfl HC'.out HGB.out.symm] at cr
                  cases pb with
                  | true =>
                    clear hh
                    go_wp2_with (go_at_call 25; refine cr.mono ?_; rintro e w10 (⟨hne, -, -, -⟩ | ⟨-, -, hE, hw⟩); exact absurd rfl hne; obtain rfl : e = .returned (.tuple #[.slice (some ⟨wr.heap.size, 0, none⟩) 64 64, .int .i64 0]) := hE; have BB := Lib.hid (show Below w7.heap.size w7 w10 by rw [hw]; exact HBX.out.alloc HBX.out.size _); clear cr hw)
                    go_roundw
                    case rel => exact ⟨k + 1, by go_num, HK.out, BB.out⟩
                    case measure => simp [intOf]; omega
                  | false =>
                    rw [HPE.out rfl] at hh
                    go_wp2_with (first | (go_at_call 25; refine cr.mono ?_; rintro e w10 (⟨hne, -, -, -⟩ | ⟨-, -, hE, hw⟩); exact absurd rfl hne; obtain rfl : e = .returned (.tuple #[.slice (some ⟨wr.heap.size, 0, none⟩) 64 64, .int .i64 0]) := hE; have BB := Lib.hid (show Below w7.heap.size w7 w10 by rw [hw]; exact HBX.out.alloc HBX.out.size _); clear cr hw) | (go_at_call 30; refine hh.mono ?_; rintro e w10 ⟨rfl, hw⟩; have hw2 := hw.symm; subst hw2; clear hh))
                    go_roundw
                    case rel => exact ⟨k + 1, by go_num, HK.out, BB.out⟩
                    case measure => simp [intOf]; omega
        · obtain rfl : k = b := by omega
          go_wp2
          go_ret
          exact ⟨rfl, M7.out.b.trans (hB.mono M7.out.b.size)⟩
  · go_wp2_with (go_at_call 18; refine cl.mono ?_; rintro e w2 (⟨-, rfl, b2⟩ | ⟨h, -⟩); rotate_left; exact absurd h hgood; have B2 := Lib.hid b2; clear b2 cl)
    go_ret
    exact ⟨rfl, B1.out.trans (B2.out.mono B1.out.size)⟩
end Go.Proofs.Ytfeoihnjfngmpaa
