/- The walk of DiskCuts: true whatever comes in. -/
import Derived.Test.YtapjgancaldgaaaRCuts
import Derived.Test.YtapjgancaldgaaaDOpen
namespace Go.Proofs.Ytapjgancaldgaaa
set_option maxRecDepth 100000
open Go.RowKit

theorem RO.at_ {w : World} {A : Option Addr} {n : Nat} {os : List OpD} (h : RO w A n os) {wr : World} (hb : Below w.heap.size w wr) {k : Nat} (hk : k < n) :
    ∃ b o x, A = some ⟨b, o, none⟩ ∧ os[k]? = some x ∧ OpIs w x ∧ wr.rangeAt b (o + k * 4) [.int .i64 x.do_, .int .i64 x.n, .slice x.A1 x.n1 x.c1, .slice x.A2 x.n2 x.c2] := by
  obtain ⟨b, o, rfl, hrow⟩ := h.row (by omega)
  obtain ⟨x, hx⟩ : ∃ x, os[k]? = some x := ⟨_, List.getElem?_eq_getElem (by rw [h.len]; exact hk)⟩
  exact ⟨b, o, x, rfl, hx, h.is x (List.mem_of_getElem? hx), fun j v hv => (hb.cell (World.block_lt_of_cell? w _ (hrow k x hx j v hv))).trans (hrow k x hx j v hv)⟩

theorem bl_cells {w wr : World} {d p : Nat} {S T : St} {F G : Nat → Prop} (h : BL w wr d p S T F G) : wr.cell? ⟨p, 6, none⟩ = some (.int .i64 T.writes) ∧ wr.cell? ⟨p, 7, none⟩ = some (.int .i64 T.syncs) := by
  obtain ⟨vs, gd, cd, gt, ct, vw, r⟩ := h.bm.b
  exact ⟨r.cell 6, r.cell 7⟩

set_option maxHeartbeats 8000000 in
theorem walk_DiskCuts (a0 : Int) (a1 : Int) (A2 : Option Addr) (n2 c2 : Nat) (z2 : List OpD) (w : World) (ha0 : -9223372036854775808 ≤ a0 ∧ a0 ≤ 9223372036854775807) (ha1 : -9223372036854775808 ≤ a1 ∧ a1 ≤ 9223372036854775807) (h2 : RO w A2 n2 z2) (hn2 : n2 ≤ c2) (hc2 : c2 ≤ 2199023255488) :
    Calls Try.prog 5 #[.int .i64 a0, .int .i64 a1, .slice A2 n2 c2] w fun e w' => e = .returned (.bool true) ∧ Below w.heap.size w w' := by
  have cb := begun_true w
  have H2 := Lib.hid h2
  clear h2
  by_cases hin : 1 ≤ a0 ∧ a0 ≤ 16384
  · obtain ⟨m, rfl⟩ := Int.eq_ofNat_of_zero_le (show 0 ≤ a0 by omega)
    have HM1 := Lib.hid (show 1 ≤ m by omega)
    have HM2 := Lib.hid (show m ≤ 16384 by omega)
    clear hin
    go_enter Try.func5, Try.ntmps5
    go_upto_region 5 with (first
      | (go_at_call 24; refine cb.mono ?_; rintro e w1 ⟨rfl, b1⟩; have B1 := Lib.hid b1; clear b1 cb)
      | (go_at_call 14; go_loud (refine (dnew w1 (m : Int) (by omega)).mono ?_; rintro e w2 (⟨h, -, -⟩ | ⟨-, d, rfl, hp, b2⟩); exact absurd (by have := HM1.out; have := HM2.out; omega) h; rw [Int.toNat_natCast] at hp; have P2 := Lib.hid hp; have B2 := Lib.hid b2; clear hp b2))
      | (go_at_call 15; go_loud (refine (rnew_at w2 m HM1.out HM2.out).mono ?_; rintro e w3 ⟨gd, cd, gt, ct, rfl, b3, hr⟩; have M4' := Lib.hid (bl_new B1.out P2.out B2.out b3 hr); clear b3 hr P2 B2)))
    obtain ⟨w4, hw4⟩ : ∃ W, (w3.alloc (.cells #[.bool true, .bool false, .int .i64 (-1), .slice (some ⟨gd, 0, none⟩) m cd, .slice (some ⟨gt, 0, none⟩) m ct, .slice none 0 0, .int .i64 0, .int .i64 0] 31)) = W := ⟨_, rfl⟩
    rw [hw4] at M4' ⊢
    have M4 := M4'
    clear M4'
    by_cases hneg : a1 < 0
    · go_wp2
      go_ret
      exact ⟨rfl, M4.out.b⟩
    · have hneg' : decide (a1 < 0) = false := by simp; omega
      have cp := pplan M4.out.bm.a a1 ha1
      have hpl : planS (newS m) a1 = cutS (newS m) a1 false := by
        simp [planS, newS, cutS]; omega
      have C0 := Lib.hid (show Cut a1 0 false (newS m) from ⟨rfl, rfl, by simp [newS], by simp [newS], by simp [newS], by simp [newS], by simp [newS]; omega, by simp, by omega⟩)
      rw [hpl, if_neg (by simp [newS])] at cp
      clear hpl hneg
      go_upto_region 11 with (go_at_call 18; go_loud (refine cp.mono ?_; rintro e w5 ⟨rfl, p5, o5⟩; have M5 := Lib.hid (M4.out.stepA p5 o5); clear p5 o5 cp))
      go_wp2
      obtain ⟨pp, hpp⟩ : ∃ pp, pp = w3.heap.size := ⟨_, rfl⟩
      rw [← hpp] at M5 ⊢
      clear hpp M4 hw4
      go_loopw [45] (fun i wr => ∃ (k : Nat) (T : St) (F G : Nat → Prop) (off : Bool), i = .int .i64 (k : Nat) ∧ k ≤ n2 ∧ BL w wr d pp (cutS T a1 off) T F G ∧ Cut a1 k off T) (fun i _ => n2 - (intOf i).toNat)
      case atStart => exact ⟨0, newS m, _, _, false, rfl, Nat.zero_le _, M5.out, C0.out⟩
      case round =>
        obtain ⟨k, T, F, G, off, rfl, hk, hM, hC⟩ := hrel
        by_cases hlt : k < n2
        · obtain ⟨b, o, x, rfl, hx, hxis, hrow⟩ := H2.out.at_ hM.b hlt
          have HR := Lib.hid hrow
          have HI := Lib.hid (show (Try.prog.info? 37).map (·.size) = some [Value.int .i64 x.do_, .int .i64 x.n, .slice x.A1 x.n1 x.c1, .slice x.A2 x.n2 x.c2].length by rfl)
          have hki : (k : Int) < (n2 : Int) := by omega
          have HK := Lib.hid hlt
          have HK2 := Lib.hid (show k + 1 ≤ 2199023255488 by omega)
          have HM := Lib.hid hM
          have HC := Lib.hid hC
          obtain ⟨do_, nn, A1, n1, c1, z1, A3, n3, c3, z3⟩ := x
          obtain ⟨rd, rn, b1, l1, m1, b3, l3, m3⟩ := hxis
          simp only at rd rn b1 l1 m1 b3 l3 m3 HR HI
          obtain ⟨W1, hW1⟩ : ∃ W, wr.alloc (.cells #[.int .i64 do_, .int .i64 nn, .slice A1 n1 c1, .slice A3 n3 c3] 37) = W := ⟨_, rfl⟩
          have q0 : W1.heap[wr.heap.size]? = some (.cells #[.int .i64 do_, .int .i64 nn, .slice A1 n1 c1, .slice A3 n3 c3] 37 (0, 0)) := by rw [← hW1]; exact heap_alloc_new _ _
          have N1 := Lib.hid (show BL w W1 d pp (cutS T a1 off) T F G by rw [← hW1]; exact hM.alloc _)
          have hQF : ¬ F wr.heap.size := fun hf => by have := hM.bm.flt _ hf; omega
          have a0_ : W1.cell? ⟨wr.heap.size, 0, none⟩ = some (.int .i64 do_) := by rw [cell_of_row _ _ _ _ _ _ q0]; rfl
          have a1_ : W1.cell? ⟨wr.heap.size, 1, none⟩ = some (.int .i64 nn) := by rw [cell_of_row _ _ _ _ _ _ q0]; rfl
          have a2_ : W1.cell? ⟨wr.heap.size, 2, none⟩ = some (.slice A1 n1 c1) := by rw [cell_of_row _ _ _ _ _ _ q0]; rfl
          have HQF := Lib.hid hQF
          have HZ := Lib.hid b1
          have HL1 := Lib.hid l1
          clear hrow hx hM hC q0 b1 b3 l3 m3 hQF
          by_cases hdo : do_ = 0 ∨ do_ = 1
          · rcases hdo with hdo | hdo
            · subst hdo
              have HPD := Lib.hid HC.out.pend
              have HPT := Lib.hid (show T.pend.length < 2199023255552 by have := HC.out.pk; have := HC.out.hi; omega)
              have cw := dwriteW N1.out.bm.a nn A1 n1 c1 z1 (HZ.out.below' N1.out.b) (N1.out.farA (rb_lt HZ.out)) HL1.out HPD.out
              have hoff := poff N1.out.bm.a
              cases off with
              | true =>
                rw [show (cutS T a1 true).off = true from rfl] at hoff
                have HOFF := Lib.hid hoff
                clear hoff
                rw [(cut_off T a1 nn z1 z1.length).1, (cut_off T a1 nn z1 z1.length).2.1] at cw
                have CW := Lib.hid cw
                clear cw
                go_wp2_with (first
                  | (with_reducible refine wpList_load_mid rfl 37 (.tmp 47) rfl b (o + k * 4) rfl [.int .i64 0, .int .i64 nn, .slice A1 n1 c1, .slice A3 n3 c3] _ HR.out Try.underlying37 rfl HI.out ?_)
                  | (go_at_call 25; go_loud (refine HOFF.out.mono ?_; rintro e w' ⟨rfl, rfl⟩))
                  | (go_at_call 17; go_loud (refine CW.out.mono ?_; rintro e w5 ⟨rfl, p5, o5⟩; have M5 := Lib.hid (N1.out.stepA p5 o5); have k0_ := o5.cell a0_ HQF.out; have k1_ := o5.cell a1_ HQF.out; have k2_ := o5.cell a2_ HQF.out; clear p5 o5 CW)))
                go_roundw
                case rel => exact ⟨k + 1, T, _, G, true, by go_num, HK.out, M5.out, HC.out.more HK2.out⟩
                case measure => have := HK.out; simp [intOf]; omega
              | false =>
                rw [show (cutS T a1 false).off = false from HC.out.nof] at hoff
                have HOFF := Lib.hid hoff
                clear hoff
                rcases cut_write HC.out HK2.out nn z1 with ⟨x1, x2, x3⟩ | ⟨x1, x2, x3, x4⟩
                · rw [x1, x2] at cw
                  have CW := Lib.hid cw
                  obtain ⟨tw, htw⟩ : ∃ tw, tw = T.writes := ⟨_, rfl⟩
                  obtain ⟨ts, hts⟩ : ∃ ts, ts = T.syncs := ⟨_, rfl⟩
                  have HTW := Lib.hid htw
                  have HTS := Lib.hid hts
                  have hq1 : (tw + ts != a1) = false := by rw [htw, hts]; have := x3.full rfl; simp; omega
                  have hq2 : 0 ≤ tw := by rw [htw]; exact x3.w0
                  have hq3 : 0 ≤ ts := by rw [hts]; exact x3.s0
                  have hq4 : tw + ts ≤ 2199023255488 := by rw [htw, hts]; have := x3.wk; have := x3.hi; omega
                  have X3 := Lib.hid x3
                  clear cw x1 x2 x3 htw hts
                  go_wp2_with (first
                    | (with_reducible refine wpList_load_mid rfl 37 (.tmp 47) rfl b (o + k * 4) rfl [.int .i64 0, .int .i64 nn, .slice A1 n1 c1, .slice A3 n3 c3] _ HR.out Try.underlying37 rfl HI.out ?_)
                    | (go_at_call_of 25 (Value.pointer (some ⟨d, 0, none⟩)); go_loud (first | (have ho5 := poff M5.out.bm.a; rw [show (cutS T a1 true).off = true from rfl] at ho5; refine ho5.mono ?_; rintro e w' ⟨rfl, rfl⟩) | (refine HOFF.out.mono ?_; rintro e w' ⟨rfl, rfl⟩)))
                    | (go_at_call 17; go_loud (refine CW.out.mono ?_; rintro e w5 ⟨rfl, p5, o5⟩; have M5 := Lib.hid (N1.out.stepA p5 o5); have k0_ := o5.cell a0_ HQF.out; have k1_ := o5.cell a1_ HQF.out; have k2_ := o5.cell a2_ HQF.out; clear p5 o5 CW; have kw := (bl_cells M5.out).1; have ks := (bl_cells M5.out).2; rw [← HTW.out] at kw; rw [← HTS.out] at ks)))
                  go_roundw
                  case rel => exact ⟨k + 1, T, _, G, true, by go_num, HK.out, M5.out, X3.out⟩
                  case measure => have := HK.out; simp [intOf]; omega
                · obtain ⟨g, hg⟩ : ∃ g, g = writeE T nn z1.length := ⟨_, rfl⟩
                  have hg22 : (g == 22) = false := by rw [hg, ← x2]; simpa using x1
                  rw [x2, x3, ← hg] at cw
                  have CW := Lib.hid cw
                  obtain ⟨tw, htw⟩ : ∃ tw, tw = (writeS T nn z1).writes := ⟨_, rfl⟩
                  obtain ⟨ts, hts⟩ : ∃ ts, ts = (writeS T nn z1).syncs := ⟨_, rfl⟩
                  have HTW := Lib.hid htw
                  have HTS := Lib.hid hts
                  have HG := Lib.hid hg
                  have hq1 : decide (a1 < tw + ts) = false := by rw [htw, hts]; have := x4.le; simp; omega
                  have hq2 : 0 ≤ tw := by rw [htw]; exact x4.w0
                  have hq3 : 0 ≤ ts := by rw [hts]; exact x4.s0
                  have hq4 : tw + ts ≤ 2199023255488 := by rw [htw, hts]; have := x4.wk; have := x4.hi; omega
                  have X4 := Lib.hid x4
                  clear cw x1 x2 x3 x4 htw hts hg
                  go_wp2_with (first
                    | (with_reducible refine wpList_load_mid rfl 37 (.tmp 47) rfl b (o + k * 4) rfl [.int .i64 0, .int .i64 nn, .slice A1 n1 c1, .slice A3 n3 c3] _ HR.out Try.underlying37 rfl HI.out ?_)
                    | (go_at_call 25; go_loud (refine HOFF.out.mono ?_; rintro e w' ⟨rfl, rfl⟩))
                    | (go_at_call 17; go_loud (refine CW.out.mono ?_; rintro e w5 ⟨rfl, p5, o5⟩; have M5 := Lib.hid (N1.out.stepA p5 o5); have k0_ := o5.cell a0_ HQF.out; have k1_ := o5.cell a1_ HQF.out; have k2_ := o5.cell a2_ HQF.out; clear p5 o5 CW))
                    | (go_at_call 26; go_loud (have cr := rwrite M5.out.bm.b nn A1 n1 c1 z1 (HZ.out.below' M5.out.b) (M5.out.farB (rb_lt HZ.out)) HPT.out; rw [← HG.out] at cr; refine cr.mono ?_; rintro e w7 ⟨rfl, p7, o7⟩; have M7 := Lib.hid (M5.out.stepB p7 o7); have kw := (bl_cells M7.out).1; have ks := (bl_cells M7.out).2; rw [← HTW.out] at kw; rw [← HTS.out] at ks; clear p7 o7 cr)))
                  go_roundw
                  case rel => exact ⟨k + 1, (writeS T nn z1), _, _, false, by go_num, HK.out, M7.out, X4.out⟩
                  case measure => have := HK.out; simp [intOf]; omega
            · subst hdo
              have HPD := Lib.hid HC.out.pend
              have HPT := Lib.hid (show T.pend.length < 2199023255552 by have := HC.out.pk; have := HC.out.hi; omega)
              have cw := dsync N1.out.bm.a (by have := HPD.out; omega)
              have hoff := poff N1.out.bm.a
              cases off with
              | true =>
                rw [show (cutS T a1 true).off = true from rfl] at hoff
                have HOFF := Lib.hid hoff
                clear hoff
                rw [(cut_off T a1 nn z1 z1.length).2.2.1, (cut_off T a1 nn z1 z1.length).2.2.2] at cw
                have CW := Lib.hid cw
                clear cw
                go_wp2_with (first
                  | (with_reducible refine wpList_load_mid rfl 37 (.tmp 47) rfl b (o + k * 4) rfl [.int .i64 1, .int .i64 nn, .slice A1 n1 c1, .slice A3 n3 c3] _ HR.out Try.underlying37 rfl HI.out ?_)
                  | (go_at_call 25; go_loud (refine HOFF.out.mono ?_; rintro e w' ⟨rfl, rfl⟩))
                  | (go_at_call 19; go_loud (refine CW.out.mono ?_; rintro e w5 ⟨rfl, p5, o5⟩; have M5 := Lib.hid (N1.out.stepA p5 o5); have k0_ := o5.cell a0_ HQF.out; have k1_ := o5.cell a1_ HQF.out; have k2_ := o5.cell a2_ HQF.out; clear p5 o5 CW)))
                go_roundw
                case rel => exact ⟨k + 1, T, _, G, true, by go_num, HK.out, M5.out, HC.out.more HK2.out⟩
                case measure => have := HK.out; simp [intOf]; omega
              | false =>
                rw [show (cutS T a1 false).off = false from HC.out.nof] at hoff
                have HOFF := Lib.hid hoff
                clear hoff
                rcases cut_sync HC.out HK2.out with ⟨x1, x2, x3⟩ | ⟨x1, x2, x3, x4⟩
                · rw [x1, x2] at cw
                  have CW := Lib.hid cw
                  obtain ⟨tw, htw⟩ : ∃ tw, tw = T.writes := ⟨_, rfl⟩
                  obtain ⟨ts, hts⟩ : ∃ ts, ts = T.syncs := ⟨_, rfl⟩
                  have HTW := Lib.hid htw
                  have HTS := Lib.hid hts
                  have hq1 : (tw + ts != a1) = false := by rw [htw, hts]; have := x3.full rfl; simp; omega
                  have hq2 : 0 ≤ tw := by rw [htw]; exact x3.w0
                  have hq3 : 0 ≤ ts := by rw [hts]; exact x3.s0
                  have hq4 : tw + ts ≤ 2199023255488 := by rw [htw, hts]; have := x3.wk; have := x3.hi; omega
                  have X3 := Lib.hid x3
                  clear cw x1 x2 x3 htw hts
                  go_wp2_with (first
                    | (with_reducible refine wpList_load_mid rfl 37 (.tmp 47) rfl b (o + k * 4) rfl [.int .i64 1, .int .i64 nn, .slice A1 n1 c1, .slice A3 n3 c3] _ HR.out Try.underlying37 rfl HI.out ?_)
                    | (go_at_call_of 25 (Value.pointer (some ⟨d, 0, none⟩)); go_loud (first | (have ho5 := poff M5.out.bm.a; rw [show (cutS T a1 true).off = true from rfl] at ho5; refine ho5.mono ?_; rintro e w' ⟨rfl, rfl⟩) | (refine HOFF.out.mono ?_; rintro e w' ⟨rfl, rfl⟩)))
                    | (go_at_call 19; go_loud (refine CW.out.mono ?_; rintro e w5 ⟨rfl, p5, o5⟩; have M5 := Lib.hid (N1.out.stepA p5 o5); have k0_ := o5.cell a0_ HQF.out; have k1_ := o5.cell a1_ HQF.out; have k2_ := o5.cell a2_ HQF.out; clear p5 o5 CW; have kw := (bl_cells M5.out).1; have ks := (bl_cells M5.out).2; rw [← HTW.out] at kw; rw [← HTS.out] at ks)))
                  go_roundw
                  case rel => exact ⟨k + 1, T, _, G, true, by go_num, HK.out, M5.out, X3.out⟩
                  case measure => have := HK.out; simp [intOf]; omega
                · obtain ⟨g, hg⟩ : ∃ g, g = syncE T := ⟨_, rfl⟩
                  have hg22 : (g == 22) = false := by rw [hg, ← x2]; simpa using x1
                  rw [x2, x3, ← hg] at cw
                  have CW := Lib.hid cw
                  obtain ⟨tw, htw⟩ : ∃ tw, tw = (syncS T).writes := ⟨_, rfl⟩
                  obtain ⟨ts, hts⟩ : ∃ ts, ts = (syncS T).syncs := ⟨_, rfl⟩
                  have HTW := Lib.hid htw
                  have HTS := Lib.hid hts
                  have HG := Lib.hid hg
                  have hq1 : decide (a1 < tw + ts) = false := by rw [htw, hts]; have := x4.le; simp; omega
                  have hq2 : 0 ≤ tw := by rw [htw]; exact x4.w0
                  have hq3 : 0 ≤ ts := by rw [hts]; exact x4.s0
                  have hq4 : tw + ts ≤ 2199023255488 := by rw [htw, hts]; have := x4.wk; have := x4.hi; omega
                  have X4 := Lib.hid x4
                  clear cw x1 x2 x3 x4 htw hts hg
                  go_wp2_with (first
                    | (with_reducible refine wpList_load_mid rfl 37 (.tmp 47) rfl b (o + k * 4) rfl [.int .i64 1, .int .i64 nn, .slice A1 n1 c1, .slice A3 n3 c3] _ HR.out Try.underlying37 rfl HI.out ?_)
                    | (go_at_call 25; go_loud (refine HOFF.out.mono ?_; rintro e w' ⟨rfl, rfl⟩))
                    | (go_at_call 19; go_loud (refine CW.out.mono ?_; rintro e w5 ⟨rfl, p5, o5⟩; have M5 := Lib.hid (N1.out.stepA p5 o5); have k0_ := o5.cell a0_ HQF.out; have k1_ := o5.cell a1_ HQF.out; have k2_ := o5.cell a2_ HQF.out; clear p5 o5 CW))
                    | (go_at_call 27; go_loud (have cr := rsync M5.out.bm.b (by have := HPT.out; omega); rw [← HG.out] at cr; refine cr.mono ?_; rintro e w7 ⟨rfl, p7, o7⟩; have M7 := Lib.hid (M5.out.stepB p7 o7); have kw := (bl_cells M7.out).1; have ks := (bl_cells M7.out).2; rw [← HTW.out] at kw; rw [← HTS.out] at ks; clear p7 o7 cr)))
                  go_roundw
                  case rel => exact ⟨k + 1, (syncS T), _, _, false, by go_num, HK.out, M7.out, X4.out⟩
                  case measure => have := HK.out; simp [intOf]; omega
          · have e1 : (do_ != 0) = true := by simp; omega
            have e2 : (do_ != 1) = true := by simp; omega
            clear hdo
            go_wp2_with (with_reducible refine wpList_load_mid rfl 37 (.tmp 47) rfl b (o + k * 4) rfl [.int .i64 do_, .int .i64 nn, .slice A1 n1 c1, .slice A3 n3 c3] _ HR.out Try.underlying37 rfl HI.out ?_)
            go_roundw
            case rel => exact ⟨k + 1, T, F, G, off, by go_num, HK.out, N1.out, HC.out.more HK2.out⟩
            case measure => simp [intOf]; omega
        · obtain rfl : k = n2 := by omega
          have HM := Lib.hid hM
          obtain ⟨x1, x2, x3⟩ := cut_crash T a1 off
          have cc := dcrash hM.bm.a none 0 0 [] ⟨rfl, by simp, fun h => absurd h (by omega)⟩ (fun ad e => by cases e) hC.pend (by omega)
          rw [x1, x2] at cc
          have X3 := Lib.hid x3
          have HP := Lib.hid (show T.pend.length < 2199023255552 by have := hC.pk; have := hC.hi; omega)
          clear hM hC x1 x2 x3
          go_wp2_with (first
            | (go_at_call 28; go_loud (refine cc.mono ?_; rintro e w6 ⟨rfl, p6, o6⟩; have M6 := Lib.hid (HM.out.stepA p6 o6); clear p6 o6 cc))
            | (go_at_call 29; go_loud (have cr := rcrash M6.out.bm.b none 0 0 [] ⟨rfl, by simp, fun h => absurd h (by omega)⟩ (fun ad e => by cases e) HP.out (by omega); rw [X3.out] at cr; refine cr.mono ?_; rintro e w7 ⟨rfl, p7, o7⟩; have M7 := Lib.hid (M6.out.stepB p7 o7); clear p7 o7 cr))
            | (go_at_call 21; go_loud (refine (limages M7.out.bm (by rw [cut_crash_pend]; omega)).mono ?_; rintro e w8 ⟨rfl, b8⟩; have B8 := Lib.hid (M7.out.b.trans (b8.mono M7.out.b.size)); clear b8)))
          go_ret
          exact ⟨rfl, B8.out⟩
  · have hnd := dnew
    go_enter Try.func5, Try.ntmps5
    go_wp2_with (first
      | (go_at_call 24; refine cb.mono ?_; rintro e w1 ⟨rfl, b1⟩; have B1 := Lib.hid b1; clear b1 cb)
      | (go_at_call 14; go_loud (refine (dnew w1 a0 ha0).mono ?_; rintro e w2 (⟨-, rfl, rfl⟩ | ⟨h, -⟩); rotate_left; exact absurd h hin; skip))
      | (go_at_call 15; go_loud (refine (rnew_no _ a0 ha0 hin).mono ?_; rintro e w3 ⟨rfl, b3⟩; have B3 := Lib.hid b3; clear b3)))
    go_ret
    exact ⟨rfl, (B1.out.trans (B3.out.mono B1.out.size)).alloc (Nat.le_trans B1.out.size B3.out.size) _⟩
end Go.Proofs.Ytapjgancaldgaaa
