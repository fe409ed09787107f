/- split: two halves of a leaf. -/
import Derived.Test.YtlhpoliiojekeaaWithout
import Derived.Deep.DeepCutAuto
namespace Go.Proofs.Ytlhpoliiojekeaa
set_option maxRecDepth 100000
open Go.RowKit

theorem keysV_take (ps : List Pr) (n : Nat) : keysV (ps.take n) = (keysV ps).take n := by simp [keysV, List.map_take]
theorem keysV_drop (ps : List Pr) (n : Nat) : keysV (ps.drop n) = (keysV ps).drop n := by simp [keysV, List.map_drop]
theorem numsV_take (ps : List Pr) (n : Nat) : numsV (ps.take n) = (numsV ps).take n := by simp [numsV, List.map_take]
theorem numsV_drop (ps : List Pr) (n : Nat) : numsV (ps.drop n) = (numsV ps).drop n := by simp [numsV, List.map_drop]
theorem LfAt.one {w : World} {g : Nat} {k : ByteArray} {z : Int} {ps : List Pr} (h : LfAt w g ((k, z) :: ps)) : ∃ ad n c, w.cell? ⟨g, 0, none⟩ = some (.slice (some ad) n c) ∧ 0 < n ∧ w.cell? (ad.add 0) = some (.string k) := by
  obtain ⟨A, c, B, e, h0, h1, -⟩ := h
  obtain ⟨ad, rfl, h2⟩ := h1.at_ (k := 0) (u := .string k) (by simp [keysV])
  exact ⟨ad, _, c, by rw [cell_of_row _ _ _ _ _ _ h0]; rfl, by simp, h2⟩
theorem LfAt.drewN {w : World} {g : Nat} {ps : List Pr} (h : LfAt w g ps) (k : Nat) : LfAt (w.drewN k) g ps := h.below (below_drewN w k)
theorem addr_add0 (a : Addr) : a.add 0 = a := by unfold Addr.add; simp

set_option maxHeartbeats 8000000 in
theorem wsplitL {w : World} {g : Nat} {ps X Y : List Pr} {k : ByteArray} {z : Int} (h : LfAt w g ps) (hx : ps.take (ps.length / 2) = X) (hy : ps.drop (ps.length / 2) = (k, z) :: Y) (hn : ps.length ≤ 990) :
    Calls Try.prog 56 #[lp g] w fun e w' => ∃ gl gr, e = .returned (.tuple #[lp gl, .string k, lp gr]) ∧ LfAt w' gl X ∧ LfAt w' gr ((k, z) :: Y) ∧ Gw w w' := by
  obtain ⟨A, c, B, e, h0, h1, h2, h3, h4⟩ := h
  have c0 : w.cell? ⟨g, 0, none⟩ = some (.slice A ps.length c) := by rw [cell_of_row _ _ _ _ _ _ h0]; rfl
  have c1 : w.cell? ⟨g, 1, none⟩ = some (.slice B ps.length e) := by rw [cell_of_row _ _ _ _ _ _ h0]; rfl
  have CE := Lib.hid fun W (hW : Gw w W) => (⟨keep_below c0 hW, keep_below c1 hW⟩ : _ ∧ _)
  obtain ⟨q, hq⟩ : ∃ q, ps.length / 2 = q := ⟨_, rfl⟩
  rw [hq] at hx hy
  have hql : q ≤ ps.length := by omega
  have ed : (ps.length : Int).tdiv 2 = (q : Int) := by rw [Int.tdiv_eq_ediv_of_nonneg (by omega)]; omega
  obtain ⟨A', hA'⟩ : ∃ A', (if c = q then A else A.map (·.add q)) = A' := ⟨_, rfl⟩
  obtain ⟨B', hB'⟩ : ∃ B', (if e = q then B else B.map (·.add q)) = B' := ⟨_, rfl⟩
  have q1 : ∀ W, (Instr.slice 36 (.slice A ps.length c) none (some (.int .i64 (q : Int))) none).run Try.prog W = .ok (.slice A q c) W := fun W => run_upto elS okS W A ps.length c q (by omega)
  have q2 : ∀ W, (Instr.slice 99 (.slice B ps.length e) none (some (.int .i64 (q : Int))) none).run Try.prog W = .ok (.slice B q e) W := fun W => run_upto elI okI W B ps.length e q (by omega)
  have q3 : ∀ W, (Instr.slice 36 (.slice A ps.length c) (some (.int .i64 (q : Int))) none none).run Try.prog W = .ok (.slice A' (ps.length - q) (c - q)) W := fun W => by rw [← hA']; exact run_from elS okS W A ps.length c q hql h2
  have q4 : ∀ W, (Instr.slice 99 (.slice B ps.length e) (some (.int .i64 (q : Int))) none none).run Try.prog W = .ok (.slice B' (ps.length - q) (e - q)) W := fun W => by rw [← hB']; exact run_from elI okI W B ps.length e q hql h4
  have S1 := Lib.hid fun (W : World) (hW : Gw w W) => wcloneS W A q c ((keysV ps).take q) ((h1.gw hW).take hql) (by omega)
  have S2 := Lib.hid fun (W : World) (hW : Gw w W) => wcloneI W B q e ((numsV ps).take q) ((h3.gw hW).take hql) (by omega)
  have S3 := Lib.hid fun (W : World) (hW : Gw w W) => wcloneS W A' (ps.length - q) (c - q) ((keysV ps).drop q) (by rw [← hA']; exact (h1.gw hW).cut hql c h2) (by omega)
  have S4 := Lib.hid fun (W : World) (hW : Gw w W) => wcloneI W B' (ps.length - q) (e - q) ((numsV ps).drop q) (by rw [← hB']; exact (h3.gw hW).cut hql e h4) (by omega)
  rw [← keysV_take, hx] at S1
  rw [← numsV_take, hx] at S2
  rw [← keysV_drop, hy] at S3
  rw [← numsV_drop, hy] at S4
  have hxl : X.length = q := by rw [← hx, List.length_take]; omega
  have hyl : ((k, z) :: Y).length = ps.length - q := by rw [← hy, List.length_drop]
  have L1 := Lib.hid (show (keysV X).length = q by rw [keysV_len, hxl])
  have L2 := Lib.hid (show (numsV X).length = q by rw [numsV_len, hxl])
  have L3 := Lib.hid (show (keysV ((k, z) :: Y)).length = ps.length - q by rw [keysV_len, hyl])
  have L4 := Lib.hid (show (numsV ((k, z) :: Y)).length = ps.length - q by rw [numsV_len, hyl])
  have HX := Lib.hid hxl
  have HY := Lib.hid hyl
  have t1 := ta_ll
  unfold lp
  clear h0 h1 h2 h3 h4 hq hA' hB' hx hy hxl hyl
  go_enter Try.func56, Try.ntmps56
  go_upto_region 5 with fail
  go_cut [7] (fun t7 wr => ∃ gl, t7 = .pointer (some ⟨gl, 0, none⟩) ∧ LfAt wr gl X ∧ Gw w wr)
  case first =>
    go_region_held3 (fun W => W.cell? ⟨g, 0, none⟩ = some (.slice A ps.length c) ∧ W.cell? ⟨g, 1, none⟩ = some (.slice B ps.length e)) (exact CE.out _ (by (repeat' (first | with_reducible exact Gw.refl _ | with_reducible exact B8.out | with_reducible exact B9.out | with_reducible refine Gw.alloc ?_ _ | with_reducible refine Gw.drew ?_ | with_reducible refine Gw.trans ?_ B8.out | with_reducible refine Gw.trans ?_ B9.out)))) (first
      | (go_at_call 60; go_loud (refine (S1.out _ (by (repeat' (first | with_reducible exact Gw.refl _ | with_reducible exact B8.out | with_reducible exact B9.out | with_reducible refine Gw.alloc ?_ _ | with_reducible refine Gw.drew ?_ | with_reducible refine Gw.trans ?_ B8.out | with_reducible refine Gw.trans ?_ B9.out)))).mono ?_; intro e w8 hm; obtain ⟨A8, c8, rfl, r8, hc8, b8⟩ := hm.got2 L1.out; have R8 := Lib.hid r8; have C8 := Lib.hid hc8; have B8 := Lib.hid b8; clear hm r8 hc8 b8))
      | (go_at_call 68; go_loud (refine (S2.out _ (by (repeat' (first | with_reducible exact Gw.refl _ | with_reducible exact B8.out | with_reducible exact B9.out | with_reducible refine Gw.alloc ?_ _ | with_reducible refine Gw.drew ?_ | with_reducible refine Gw.trans ?_ B8.out | with_reducible refine Gw.trans ?_ B9.out)))).mono ?_; intro e w9 hm; obtain ⟨A9, c9, rfl, r9, hc9, b9⟩ := hm.got2 L2.out; have R9 := Lib.hid r9; have C9 := Lib.hid hc9; have B9 := Lib.hid b9; clear hm r9 hc9 b9)))
    all_goals go_wp2
    all_goals go_meet
    all_goals exact ⟨_, rfl, LfAt.made (R8.out.gw (by (repeat' (first | with_reducible exact Gw.refl _ | with_reducible exact B8.out | with_reducible exact B9.out | with_reducible refine Gw.alloc ?_ _ | with_reducible refine Gw.drew ?_ | with_reducible refine Gw.trans ?_ B8.out | with_reducible refine Gw.trans ?_ B9.out)))) C8.out (R9.out.gw (by (repeat' (first | with_reducible exact Gw.refl _ | with_reducible exact B8.out | with_reducible exact B9.out | with_reducible refine Gw.alloc ?_ _ | with_reducible refine Gw.drew ?_ | with_reducible refine Gw.trans ?_ B8.out | with_reducible refine Gw.trans ?_ B9.out)))) C9.out HX.out, by (repeat' (first | with_reducible exact Gw.refl _ | with_reducible exact B8.out | with_reducible exact B9.out | with_reducible refine Gw.alloc ?_ _ | with_reducible refine Gw.drew ?_ | with_reducible refine Gw.trans ?_ B8.out | with_reducible refine Gw.trans ?_ B9.out))⟩
  case rest =>
    obtain ⟨gl, rfl, hl, hb⟩ := hcut
    have HL := Lib.hid hl
    have HB := Lib.hid hb
    have CE2 := Lib.hid fun W (hW : Gw wc W) => CE.out W (hb.trans hW)
    have T3 := Lib.hid fun W (hW : Gw wc W) => S3.out W (hb.trans hW)
    have T4 := Lib.hid fun W (hW : Gw wc W) => S4.out W (hb.trans hW)
    have d0 := (CE.out wc hb).1
    have d1 := (CE.out wc hb).2
    clear hl hb S1 S2 S3 S4 CE L1 L2 q1 q2 c0 c1
    go_upto_region 6 with fail
    go_cut [8] (fun t8 wr => ∃ gr, t8 = .pointer (some ⟨gr, 0, none⟩) ∧ LfAt wr gr ((k, z) :: Y) ∧ Gw wc wr)
    case first =>
      go_region_held3 (fun W => W.cell? ⟨g, 0, none⟩ = some (.slice A ps.length c) ∧ W.cell? ⟨g, 1, none⟩ = some (.slice B ps.length e)) (exact CE2.out _ (by (repeat' (first | with_reducible exact Gw.refl _ | with_reducible exact B8.out | with_reducible exact B9.out | with_reducible refine Gw.alloc ?_ _ | with_reducible refine Gw.drew ?_ | with_reducible refine Gw.trans ?_ B8.out | with_reducible refine Gw.trans ?_ B9.out)))) (first
        | (go_at_call 60; go_loud (refine (T3.out _ (by (repeat' (first | with_reducible exact Gw.refl _ | with_reducible exact B8.out | with_reducible exact B9.out | with_reducible refine Gw.alloc ?_ _ | with_reducible refine Gw.drew ?_ | with_reducible refine Gw.trans ?_ B8.out | with_reducible refine Gw.trans ?_ B9.out)))).mono ?_; intro e w8 hm; obtain ⟨A8, c8, rfl, r8, hc8, b8⟩ := hm.got2 L3.out; have R8 := Lib.hid r8; have C8 := Lib.hid hc8; have B8 := Lib.hid b8; clear hm r8 hc8 b8))
        | (go_at_call 68; go_loud (refine (T4.out _ (by (repeat' (first | with_reducible exact Gw.refl _ | with_reducible exact B8.out | with_reducible exact B9.out | with_reducible refine Gw.alloc ?_ _ | with_reducible refine Gw.drew ?_ | with_reducible refine Gw.trans ?_ B8.out | with_reducible refine Gw.trans ?_ B9.out)))).mono ?_; intro e w9 hm; obtain ⟨A9, c9, rfl, r9, hc9, b9⟩ := hm.got2 L4.out; have R9 := Lib.hid r9; have C9 := Lib.hid hc9; have B9 := Lib.hid b9; clear hm r9 hc9 b9)))
      all_goals go_wp2
      all_goals go_meet
      all_goals exact ⟨_, rfl, LfAt.made (R8.out.gw (by (repeat' (first | with_reducible exact Gw.refl _ | with_reducible exact B8.out | with_reducible exact B9.out | with_reducible refine Gw.alloc ?_ _ | with_reducible refine Gw.drew ?_ | with_reducible refine Gw.trans ?_ B8.out | with_reducible refine Gw.trans ?_ B9.out)))) C8.out (R9.out.gw (by (repeat' (first | with_reducible exact Gw.refl _ | with_reducible exact B8.out | with_reducible exact B9.out | with_reducible refine Gw.alloc ?_ _ | with_reducible refine Gw.drew ?_ | with_reducible refine Gw.trans ?_ B8.out | with_reducible refine Gw.trans ?_ B9.out)))) C9.out HY.out, by (repeat' (first | with_reducible exact Gw.refl _ | with_reducible exact B8.out | with_reducible exact B9.out | with_reducible refine Gw.alloc ?_ _ | with_reducible refine Gw.drew ?_ | with_reducible refine Gw.trans ?_ B8.out | with_reducible refine Gw.trans ?_ B9.out))⟩
    case rest =>
      rename World => wr
      obtain ⟨gr, rfl, hr2, hb2⟩ := hcut
      obtain ⟨ad, nn, cc, e0, e1, e2⟩ := hr2.one
      rw [addr_add0] at e2
      have HR := Lib.hid hr2
      have HB2 := Lib.hid hb2
      have e3 : (0 : Int) < (nn : Int) := by omega
      clear hr2 hb2 d0 d1
      go_wp2
      go_quiet (fail)
      go_wp2
      go_ret3
      exact ⟨_, _, rfl, (HL.out.gw HB2.out).drewN _, HR.out.drewN _, (HB.out.trans HB2.out).drewN _⟩
end Go.Proofs.Ytlhpoliiojekeaa
