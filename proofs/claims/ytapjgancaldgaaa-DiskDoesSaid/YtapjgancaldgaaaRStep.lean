/- One operation of a script, on both disks. -/
import Derived.Test.YtapjgancaldgaaaDiskCutsWalk
namespace Go.Proofs.Ytapjgancaldgaaa
set_option maxRecDepth 100000
open Go.RowKit

def stepS (S : St) (o : OpD) : St :=
  if o.do_ = 0 then writeS S o.n o.z1 else if o.do_ = 1 then syncS S else if o.do_ = 2 then planS S o.n else if o.do_ = 4 then crashS S o.z2 else S
def StepIs (w : World) (d p : Nat) (S' : St) (e : Ending) (w' : World) : Prop := e = .returned (.bool true) ∧ ∃ F G, BL w w' d p S' S' F G
theorem spend_pend (S : St) : (spendS S).pend = S.pend := by unfold spendS; split <;> (try split) <;> rfl
theorem step_pend (S : St) (o : OpD) : (stepS S o).pend.length ≤ S.pend.length + 1 := by
  unfold stepS
  split
  · unfold writeS
    split
    · omega
    · split
      · omega
      · split
        · omega
        · split
          · rw [spend_pend]; omega
          · simp
  · split
    · unfold syncS
      split
      · omega
      · split
        · rw [spend_pend]; omega
        · simp
    · split
      · unfold planS; split <;> simp
      · split
        · unfold crashS
          split
          · omega
          · split <;> simp
        · omega

section
variable {w wr : World} {d p : Nat} {S : St} {F G : Nat → Prop}
/-- Behind the operation's own block. -/
theorem step_op (h : BL w wr d p S S F G) (vs : Array Value) : ∃ W1, wr.alloc (.cells vs 37) = W1 ∧ BL w W1 d p S S F G ∧ (∀ j, W1.cell? ⟨wr.heap.size, j, none⟩ = vs[j]?) ∧ ¬ F wr.heap.size ∧ ¬ G wr.heap.size := by
  refine ⟨_, rfl, h.alloc _, fun j => ?_, fun hf => ?_, fun hf => ?_⟩
  · exact cell_of_row _ _ _ _ _ _ (heap_alloc_new _ _)
  · have := h.bm.flt _ hf; omega
  · have := h.bm.glt _ hf; omega

set_option maxHeartbeats 4000000 in
theorem step_write (h : BL w wr d p S S F G) (hm : S.pend.length < 2199023255552) (nn : Int) (A1 : Option Addr) (n1 c1 : Nat) (z1 : List Int) (hz : RB w A1 n1 z1) (l1 : n1 ≤ c1) (A2 : Option Addr) (n2 c2 : Nat) :
    Calls Try.prog 20 #[.pointer (some ⟨d, 0, none⟩), .pointer (some ⟨p, 0, none⟩), .agg #[.int .i64 0, .int .i64 nn, .slice A1 n1 c1, .slice A2 n2 c2]] wr (StepIs w d p (writeS S nn z1)) := by
  obtain ⟨W1, hW1, N1, hc, hF, hG⟩ := step_op h #[.int .i64 0, .int .i64 nn, .slice A1 n1 c1, .slice A2 n2 c2]
  have c0 := hc 0
  have c1_ := hc 1
  have c2_ := hc 2
  have N1 := Lib.hid N1.drew
  have HF := Lib.hid hF
  have HG := Lib.hid hG
  have HZ := Lib.hid hz
  have HM := Lib.hid hm
  have HL := Lib.hid l1
  have hS1 : W1.drew.cell? ⟨wr.heap.size, 1, none⟩ = some (.int .i64 nn) ∧ W1.drew.cell? ⟨wr.heap.size, 2, none⟩ = some (.slice A1 n1 c1) := ⟨c1_, c2_⟩
  have CW := Lib.hid (dwriteW N1.out.bm.a nn A1 n1 c1 z1 (hz.below' N1.out.b) (N1.out.farA (rb_lt hz)) l1 hm)
  obtain ⟨g, hg⟩ : ∃ g, g = writeE S nn z1.length := ⟨_, rfl⟩
  rw [← hg] at CW
  have HGG := Lib.hid hg
  clear hc hF hG h hz hm l1 hg
  go_enter Try.func20, Try.ntmps20
  go_upto_region 3 with fail
  clear c0 c1_ c2_
  go_region_held3 (fun W => W.cell? ⟨wr.heap.size, 1, none⟩ = some (.int .i64 nn) ∧ W.cell? ⟨wr.heap.size, 2, none⟩ = some (.slice A1 n1 c1)) (first | exact hS1 | exact hS5 | exact hS7)
    (first
      | (go_at_call 17; go_loud (refine CW.out.mono ?_; rintro e w5 ⟨rfl, p5, o5⟩; have M5 := Lib.hid (N1.out.stepA p5 o5); have hS5 : w5.cell? ⟨wr.heap.size, 1, none⟩ = some (.int .i64 nn) ∧ w5.cell? ⟨wr.heap.size, 2, none⟩ = some (.slice A1 n1 c1) := ⟨o5.cell hS1.1 HF.out, o5.cell hS1.2 HF.out⟩; clear p5 o5 CW))
      | (go_at_call 26; go_loud (have cr := rwrite M5.out.bm.b nn A1 n1 c1 z1 (HZ.out.below' M5.out.b) (M5.out.farB (rb_lt HZ.out)) HM.out; rw [← HGG.out] at cr; refine cr.mono ?_; rintro e w7 ⟨rfl, p7, o7⟩; have M7 := Lib.hid (M5.out.stepB p7 o7); have hS7 : w7.cell? ⟨wr.heap.size, 1, none⟩ = some (.int .i64 nn) ∧ w7.cell? ⟨wr.heap.size, 2, none⟩ = some (.slice A1 n1 c1) := ⟨o7.cell hS5.1 HG.out, o7.cell hS5.2 HG.out⟩; clear p7 o7 cr)))
  all_goals
    go_wp2
    go_ret
    exact ⟨by simp, _, _, M7.out⟩
set_option maxHeartbeats 4000000 in
theorem step_sync (h : BL w wr d p S S F G) (hm : S.pend.length < 2199023255552) (nn : Int) (A1 : Option Addr) (n1 c1 : Nat) (A2 : Option Addr) (n2 c2 : Nat) :
    Calls Try.prog 20 #[.pointer (some ⟨d, 0, none⟩), .pointer (some ⟨p, 0, none⟩), .agg #[.int .i64 1, .int .i64 nn, .slice A1 n1 c1, .slice A2 n2 c2]] wr (StepIs w d p (syncS S)) := by
  obtain ⟨W1, hW1, N1, hc, hF, hG⟩ := step_op h #[.int .i64 1, .int .i64 nn, .slice A1 n1 c1, .slice A2 n2 c2]
  have c0 := hc 0
  have c1_ := hc 1
  have c2_ := hc 2
  have c3_ := hc 3
  have N0 := Lib.hid N1
  have N1 := Lib.hid N1.drew
  have HF := Lib.hid hF
  have HG := Lib.hid hG
  have HM := Lib.hid hm
  have CW := Lib.hid (dsync N0.out.bm.a (by have := HM.out; omega))
  obtain ⟨g, hg⟩ : ∃ g, g = syncE S := ⟨_, rfl⟩
  rw [← hg] at CW
  have HGG := Lib.hid hg
  clear hc hF hG h hm hg
  go_enter Try.func20, Try.ntmps20
  go_wp2_with (first
    | (go_at_call 19; go_loud (refine CW.out.mono ?_; rintro e w5 ⟨rfl, p5, o5⟩; have M5 := Lib.hid (N0.out.stepA p5 o5); clear p5 o5 CW))
    | (go_at_call 27; go_loud (have cr := rsync M5.out.bm.b (by have := HM.out; omega); rw [← HGG.out] at cr; refine cr.mono ?_; rintro e w7 ⟨rfl, p7, o7⟩; have M7 := Lib.hid (M5.out.stepB p7 o7); clear p7 o7 cr)))
  go_ret
  exact ⟨by simp, _, _, M7.out⟩
set_option maxHeartbeats 4000000 in
theorem step_plan (h : BL w wr d p S S F G) (hm : S.pend.length < 2199023255552) (nn : Int) (A1 : Option Addr) (n1 c1 : Nat) (A2 : Option Addr) (n2 c2 : Nat) (hn : -9223372036854775808 ≤ nn ∧ nn ≤ 9223372036854775807) :
    Calls Try.prog 20 #[.pointer (some ⟨d, 0, none⟩), .pointer (some ⟨p, 0, none⟩), .agg #[.int .i64 2, .int .i64 nn, .slice A1 n1 c1, .slice A2 n2 c2]] wr (StepIs w d p (planS S nn)) := by
  obtain ⟨W1, hW1, N1, hc, hF, hG⟩ := step_op h #[.int .i64 2, .int .i64 nn, .slice A1 n1 c1, .slice A2 n2 c2]
  have c0 := hc 0
  have c1_ := hc 1
  have c2_ := hc 2
  have c3_ := hc 3
  have N0 := Lib.hid N1
  have N1 := Lib.hid N1.drew
  have HF := Lib.hid hF
  have HG := Lib.hid hG
  have HM := Lib.hid hm
  have CW := Lib.hid (pplan N1.out.bm.a nn hn)
  obtain ⟨g, hg⟩ : ∃ g : Int, g = (if S.off then 22 else 0) := ⟨_, rfl⟩
  rw [← hg] at CW
  have HGG := Lib.hid hg
  have HN := Lib.hid hn
  have hS1 : W1.drew.cell? ⟨wr.heap.size, 1, none⟩ = some (.int .i64 nn) := c1_
  clear hc hF hG h hm hg hn
  go_enter Try.func20, Try.ntmps20
  go_upto_region 7 with fail
  clear c0 c1_ c2_ c3_
  go_region_held3 (fun W => W.cell? ⟨wr.heap.size, 1, none⟩ = some (.int .i64 nn)) (first | exact hS1 | exact hS5 | exact hS7)
    (first
      | (go_at_call 18; go_loud (refine CW.out.mono ?_; rintro e w5 ⟨rfl, p5, o5⟩; have M5 := Lib.hid (N1.out.stepA p5 o5); have hS5 : w5.cell? ⟨wr.heap.size, 1, none⟩ = some (.int .i64 nn) := o5.cell hS1 HF.out; clear p5 o5 CW))
      | (go_at_call 58; go_loud (have cr := rplan M5.out.bm.b nn HN.out; rw [← HGG.out] at cr; refine cr.mono ?_; rintro e w7 ⟨rfl, p7, o7⟩; have M7 := Lib.hid (M5.out.stepB p7 o7); have hS7 : w7.cell? ⟨wr.heap.size, 1, none⟩ = some (.int .i64 nn) := o7.cell hS5 HG.out; clear p7 o7 cr)))
  all_goals
    go_wp2
    go_ret
    exact ⟨by simp, _, _, M7.out⟩
set_option maxHeartbeats 4000000 in
theorem step_read (h : BL w wr d p S S F G) (hm : S.pend.length < 2199023255552) (nn : Int) (A1 : Option Addr) (n1 c1 : Nat) (A2 : Option Addr) (n2 c2 : Nat) :
    Calls Try.prog 20 #[.pointer (some ⟨d, 0, none⟩), .pointer (some ⟨p, 0, none⟩), .agg #[.int .i64 3, .int .i64 nn, .slice A1 n1 c1, .slice A2 n2 c2]] wr (StepIs w d p S) := by
  obtain ⟨W1, hW1, N1, hc, hF, hG⟩ := step_op h #[.int .i64 3, .int .i64 nn, .slice A1 n1 c1, .slice A2 n2 c2]
  have c0 := hc 0
  have c1_ := hc 1
  have c2_ := hc 2
  have c3_ := hc 3
  have N0 := Lib.hid N1
  have N1 := Lib.hid N1.drew
  have HF := Lib.hid hF
  have HG := Lib.hid hG
  have HM := Lib.hid hm
  have hlo := N1.out.bm.a.wf
  have CW := Lib.hid (dread N0.out.bm.a nn hm)
  obtain ⟨r, hr⟩ : ∃ r, r = readB S nn := ⟨_, rfl⟩
  have HR := Lib.hid hr
  rw [← hr] at CW
  have HC1 := Lib.hid c1_
  clear hc hF hG h hm hr hlo
  by_cases hr2 : r.2 = 0
  · have HR2 := Lib.hid hr2
    clear hr2
    go_enter Try.func20, Try.ntmps20
    go_wp2_with (first
      | (go_at_call 59; go_loud (refine CW.out.mono ?_; rintro e w5 (⟨h, -⟩ | ⟨-, hb, rfl, hw5⟩); exact absurd HR2.out h; have B5 := Lib.hid (show Below W1.heap.size W1 w5 by rw [hw5]; exact (Below.refl _ _).alloc (Nat.le_refl _) _); have R5 := Lib.hid (show RB w5 (some ⟨W1.heap.size, 0, none⟩) 64 r.1 by have := RB.new W1 (e := 95) (fr := (0, 0)) hb.byte; rw [hb.len] at this; rw [hw5]; exact this); have M5 := Lib.hid (N0.out.below B5.out); have k1_ := keep_below HC1.out B5.out; clear hb hw5 CW))
      | (go_at_call 60; go_loud (have cr := rread M5.out.bm.b nn HM.out; rw [← HR.out] at cr; refine cr.mono ?_; rintro e w7 (⟨h, -⟩ | ⟨-, cap, rfl, hcap, hb, hb7⟩); exact absurd HR2.out h; have M7 := Lib.hid (M5.out.below hb7); have R7 := Lib.hid hb; have R57 := Lib.hid (R5.out.below' hb7); clear hb hb7 cr))
      | (go_at_call 61; go_loud (refine (lalike_same _ _ R57.out R7.out).mono ?_; rintro e w' ⟨rfl, hw⟩; subst hw)))
    go_ret
    exact ⟨rfl, _, _, M7.out⟩
  · have HR2 := Lib.hid hr2
    clear hr2
    go_enter Try.func20, Try.ntmps20
    go_wp2_with (first
      | (go_at_call 59; go_loud (refine CW.out.mono ?_; rintro e w5 (⟨-, -, rfl, rfl⟩ | ⟨h, -⟩); rotate_left; exact absurd h HR2.out; skip))
      | (go_at_call 60; go_loud (have cr := rread N0.out.bm.b nn HM.out; rw [← HR.out] at cr; refine cr.mono ?_; rintro e w7 (⟨-, -, rfl, rfl⟩ | ⟨h, -⟩); rotate_left; exact absurd h HR2.out; skip))
      | (go_at_call 61; go_loud (refine (lalike_same _ _ (RB.empty _ none) (RB.empty _ none)).mono ?_; rintro e w' ⟨rfl, hw⟩; subst hw)))
    go_ret
    exact ⟨by simp, _, _, N0.out⟩
set_option maxHeartbeats 4000000 in
theorem step_crash (h : BL w wr d p S S F G) (hm : S.pend.length < 2199023255552) (nn : Int) (A1 : Option Addr) (n1 c1 : Nat) (A2 : Option Addr) (n2 c2 : Nat) (z2 : List Int) (hz : RI w A2 n2 z2) (hn2 : n2 ≤ 140737488355328) :
    Calls Try.prog 20 #[.pointer (some ⟨d, 0, none⟩), .pointer (some ⟨p, 0, none⟩), .agg #[.int .i64 4, .int .i64 nn, .slice A1 n1 c1, .slice A2 n2 c2]] wr (StepIs w d p (crashS S z2)) := by
  obtain ⟨W1, hW1, N1, hc, hF, hG⟩ := step_op h #[.int .i64 4, .int .i64 nn, .slice A1 n1 c1, .slice A2 n2 c2]
  have c0 := hc 0
  have c1_ := hc 1
  have c2_ := hc 2
  have c3_ := hc 3
  have N0 := Lib.hid N1
  have N1 := Lib.hid N1.drew
  have HF := Lib.hid hF
  have HG := Lib.hid hG
  have HM := Lib.hid hm
  have CW := Lib.hid (dcrash N1.out.bm.a A2 n2 c2 z2 (hz.below N1.out.b) (N1.out.farA (ri_lt hz)) hm hn2)
  obtain ⟨g, hg⟩ : ∃ g, g = crashE S z2 := ⟨_, rfl⟩
  rw [← hg] at CW
  have HGG := Lib.hid hg
  have HZ := Lib.hid hz
  have HN2 := Lib.hid hn2
  have hS1 : W1.drew.cell? ⟨wr.heap.size, 3, none⟩ = some (.slice A2 n2 c2) := c3_
  clear hc hF hG h hm hg hz hn2
  go_enter Try.func20, Try.ntmps20
  go_upto_region 13 with fail
  clear c0 c1_ c2_ c3_
  go_region_held3 (fun W => W.cell? ⟨wr.heap.size, 3, none⟩ = some (.slice A2 n2 c2)) (first | exact hS1 | exact hS5 | exact hS7)
    (first
      | (go_at_call 28; go_loud (refine CW.out.mono ?_; rintro e w5 ⟨rfl, p5, o5⟩; have M5 := Lib.hid (N1.out.stepA p5 o5); have hS5 : w5.cell? ⟨wr.heap.size, 3, none⟩ = some (.slice A2 n2 c2) := o5.cell hS1 HF.out; clear p5 o5 CW))
      | (go_at_call 29; go_loud (have cr := rcrash M5.out.bm.b A2 n2 c2 z2 (HZ.out.below M5.out.b) (M5.out.farB (ri_lt HZ.out)) HM.out HN2.out; rw [← HGG.out] at cr; refine cr.mono ?_; rintro e w7 ⟨rfl, p7, o7⟩; have M7 := Lib.hid (M5.out.stepB p7 o7); have hS7 : w7.cell? ⟨wr.heap.size, 3, none⟩ = some (.slice A2 n2 c2) := o7.cell hS5 HG.out; clear p7 o7 cr)))
  all_goals
    go_wp2
    go_ret
    exact ⟨by simp, _, _, M7.out⟩
set_option maxHeartbeats 4000000 in
theorem step_off (h : BL w wr d p S S F G) (hm : S.pend.length < 2199023255552) (nn : Int) (A1 : Option Addr) (n1 c1 : Nat) (A2 : Option Addr) (n2 c2 : Nat) :
    Calls Try.prog 20 #[.pointer (some ⟨d, 0, none⟩), .pointer (some ⟨p, 0, none⟩), .agg #[.int .i64 5, .int .i64 nn, .slice A1 n1 c1, .slice A2 n2 c2]] wr (StepIs w d p S) := by
  obtain ⟨W1, hW1, N1, hc, hF, hG⟩ := step_op h #[.int .i64 5, .int .i64 nn, .slice A1 n1 c1, .slice A2 n2 c2]
  have c0 := hc 0
  have N0 := Lib.hid N1
  have HM := Lib.hid hm
  have WF := Lib.hid N1.bm.a.wf
  obtain ⟨vs, gd, cd, gt, ct, vw, R⟩ := N1.bm.b
  have e1 := R.cell 1
  have e3 := R.cell 3
  have e5 := R.cell 5
  have e6 := R.cell 6
  have e7 := R.cell 7
  have RR := Lib.hid R
  clear hc hF hG h hm N1 R
  go_enter Try.func20, Try.ntmps20
  go_upto_region 15 with fail
  have hS1 : W1.drew.cell? ⟨p, 1, none⟩ = some (.bool S.off) ∧ W1.drew.cell? ⟨p, 3, none⟩ = some (.slice (some ⟨gd, 0, none⟩) S.last.length cd) := ⟨e1, e3⟩
  clear c0 e1 e3 e5 e6 e7
  go_region_held3 (fun W => W.cell? ⟨p, 1, none⟩ = some (.bool S.off) ∧ W.cell? ⟨p, 3, none⟩ = some (.slice (some ⟨gd, 0, none⟩) S.last.length cd)) (first | exact hS1)
    (first
      | (go_at_call 25; refine (poff N0.out.drew.bm.a).mono ?_; rintro e w' ⟨rfl, rfl⟩)
      | (go_at_call 39; refine (pblocks N0.out.drew.bm.a).mono ?_; rintro e w' ⟨rfl, rfl⟩))
  all_goals
    go_wp2
    go_ret
    exact ⟨by simp, _, _, N0.out.drew⟩
set_option maxHeartbeats 4000000 in
theorem step_pending (h : BL w wr d p S S F G) (hm : S.pend.length < 2199023255552) (nn : Int) (A1 : Option Addr) (n1 c1 : Nat) (A2 : Option Addr) (n2 c2 : Nat) :
    Calls Try.prog 20 #[.pointer (some ⟨d, 0, none⟩), .pointer (some ⟨p, 0, none⟩), .agg #[.int .i64 6, .int .i64 nn, .slice A1 n1 c1, .slice A2 n2 c2]] wr (StepIs w d p S) := by
  obtain ⟨W1, hW1, N1, hc, hF, hG⟩ := step_op h #[.int .i64 6, .int .i64 nn, .slice A1 n1 c1, .slice A2 n2 c2]
  have c0 := hc 0
  have N0 := Lib.hid N1
  have HM := Lib.hid hm
  have WF := Lib.hid N1.bm.a.wf
  obtain ⟨vs, gd, cd, gt, ct, vw, R⟩ := N1.bm.b
  have e1 := R.cell 1
  have e3 := R.cell 3
  have e5 := R.cell 5
  have e6 := R.cell 6
  have e7 := R.cell 7
  have RR := Lib.hid R
  clear hc hF hG h hm N1 R
  go_enter Try.func20, Try.ntmps20
  go_upto_region 17 with fail
  have hS1 : W1.drew.cell? ⟨p, 5, none⟩ = some vw := e5
  clear c0 e1 e3 e5 e6 e7
  go_region_held3 (fun W => W.cell? ⟨p, 5, none⟩ = some vw) (first | exact hS1 | exact hS5 | exact hS6)
    (first
      | (go_at_call 63; go_loud (refine (dpending N0.out.drew.bm.a HM.out).mono ?_; rintro e w5 ⟨L5, G5, hE, pr5, b5⟩; obtain rfl : e = .returned (.slice (some ⟨W1.heap.size, 0, none⟩) S.pend.length S.pend.length) := hE; have PR5 := Lib.hid pr5; have B5 := Lib.hid (show Below W1.heap.size W1 w5 from ⟨b5.os, b5.tape, b5.output, b5.size, b5.block⟩); have RW5 := Lib.hid (RR.out.wait.stays (F' := G) (fun k hk _ _ _ _ => B5.out.block k hk) B5.out.size (fun _ _ h => h)); have M5 := Lib.hid (N0.out.below B5.out); have hS5 := keep_below hS1 b5; clear pr5 b5))
      | (go_at_call 62; go_loud (refine (lpendR PR5.out RW5.out WF.out.pb (by have := HM.out; omega)).mono ?_; rintro e w6 ⟨rfl, m6, hw6⟩; have M6 := Lib.hid (show BL w w6 d p S S F G by rw [hw6]; exact M5.out.below ⟨rfl, rfl, rfl, Nat.le_refl _, fun _ _ => rfl⟩); have hS6 : w6.cell? ⟨p, 5, none⟩ = some vw := (by rw [hw6]; exact hS5); clear hw6)))
  all_goals
    go_wp2
    go_ret
    exact ⟨by simp, _, _, M6.out⟩
set_option maxHeartbeats 4000000 in
theorem step_image (h : BL w wr d p S S F G) (hm : S.pend.length < 2199023255552) (nn : Int) (A1 : Option Addr) (n1 c1 : Nat) (A2 : Option Addr) (n2 c2 : Nat) :
    Calls Try.prog 20 #[.pointer (some ⟨d, 0, none⟩), .pointer (some ⟨p, 0, none⟩), .agg #[.int .i64 7, .int .i64 nn, .slice A1 n1 c1, .slice A2 n2 c2]] wr (StepIs w d p S) := by
  obtain ⟨W1, hW1, N1, hc, hF, hG⟩ := step_op h #[.int .i64 7, .int .i64 nn, .slice A1 n1 c1, .slice A2 n2 c2]
  have c0 := hc 0
  have N0 := Lib.hid N1
  have HM := Lib.hid hm
  have WF := Lib.hid N1.bm.a.wf
  obtain ⟨vs, gd, cd, gt, ct, vw, R⟩ := N1.bm.b
  have e1 := R.cell 1
  have e3 := R.cell 3
  have e5 := R.cell 5
  have e6 := R.cell 6
  have e7 := R.cell 7
  have RR := Lib.hid R
  clear hc hF hG h hm N1 R
  clear e1 e3 e5 e6 e7
  go_enter Try.func20, Try.ntmps20
  go_wp2_with (first
    | (go_at_call 64; go_loud (refine (dimage N0.out.bm.a).mono ?_; intro e w4 hI; obtain ⟨g4, cap4, A4, n4, c4, hE, I4, b4⟩ := image_at hI WF.out.lo WF.out.hi WF.out.lb; subst hE; have I4 := Lib.hid I4; have M4 := Lib.hid (N0.out.below b4); clear hI b4))
    | (go_at_call 65; go_loud (refine (rimage M4.out.bm.b).mono ?_; intro e w5 hI; obtain ⟨g5, cap5, A5, n5, c5, hE, I5, b5⟩ := image_at hI WF.out.lo WF.out.hi WF.out.lb; subst hE; have I5 := Lib.hid I5; have B5 := Lib.hid b5; have M5 := Lib.hid (M4.out.below b5); clear hI b5))
    | (go_at_call 61; go_loud (refine (lalike_same _ _ (I4.out.rb.below' B5.out) I5.out.rb).mono ?_; rintro e w' ⟨rfl, hw⟩; subst hw))
    | (go_at_call 66; go_loud (obtain rfl : n4 = n5 := I4.out.ri.len.symm.trans I5.out.ri.len; refine (lints (I4.out.ri.below B5.out) I5.out.ri c4 c5 (by have := I4.out.nt_; omega)).mono ?_; rintro e w6 ⟨rfl, m6, hw6⟩; have M6 := Lib.hid (show BL w w6 d p S S F G by rw [hw6]; exact M5.out.below ⟨rfl, rfl, rfl, Nat.le_refl _, fun _ _ => rfl⟩); clear hw6)))
  go_ret
  exact ⟨by simp, _, _, M6.out⟩
set_option maxHeartbeats 4000000 in
theorem step_counts (h : BL w wr d p S S F G) (hm : S.pend.length < 2199023255552) (nn : Int) (A1 : Option Addr) (n1 c1 : Nat) (A2 : Option Addr) (n2 c2 : Nat) :
    Calls Try.prog 20 #[.pointer (some ⟨d, 0, none⟩), .pointer (some ⟨p, 0, none⟩), .agg #[.int .i64 8, .int .i64 nn, .slice A1 n1 c1, .slice A2 n2 c2]] wr (StepIs w d p S) := by
  obtain ⟨W1, hW1, N1, hc, hF, hG⟩ := step_op h #[.int .i64 8, .int .i64 nn, .slice A1 n1 c1, .slice A2 n2 c2]
  have c0 := hc 0
  have N0 := Lib.hid N1
  have HM := Lib.hid hm
  have WF := Lib.hid N1.bm.a.wf
  obtain ⟨vs, gd, cd, gt, ct, vw, R⟩ := N1.bm.b
  have e1 := R.cell 1
  have e3 := R.cell 3
  have e5 := R.cell 5
  have e6 := R.cell 6
  have e7 := R.cell 7
  have RR := Lib.hid R
  clear hc hF hG h hm N1 R
  go_enter Try.func20, Try.ntmps20
  go_wp2_with (go_at_call 36; refine (pcounts N0.out.bm.a).mono ?_; rintro e w5 ⟨rfl, hw⟩; subst hw)
  go_ret
  exact ⟨by simp, _, _, N0.out.drew⟩
set_option maxHeartbeats 4000000 in
theorem step_other (h : BL w wr d p S S F G) (hm : S.pend.length < 2199023255552) (do_ nn : Int) (A1 : Option Addr) (n1 c1 : Nat) (A2 : Option Addr) (n2 c2 : Nat) (hd : do_ < 0 ∨ 8 < do_) :
    Calls Try.prog 20 #[.pointer (some ⟨d, 0, none⟩), .pointer (some ⟨p, 0, none⟩), .agg #[.int .i64 do_, .int .i64 nn, .slice A1 n1 c1, .slice A2 n2 c2]] wr (StepIs w d p S) := by
  obtain ⟨W1, hW1, N1, hc, hF, hG⟩ := step_op h #[.int .i64 do_, .int .i64 nn, .slice A1 n1 c1, .slice A2 n2 c2]
  have c0 := hc 0
  have N0 := Lib.hid N1
  have HM := Lib.hid hm
  have WF := Lib.hid N1.bm.a.wf
  obtain ⟨vs, gd, cd, gt, ct, vw, R⟩ := N1.bm.b
  have e1 := R.cell 1
  have e3 := R.cell 3
  have e5 := R.cell 5
  have e6 := R.cell 6
  have e7 := R.cell 7
  have RR := Lib.hid R
  clear hc hF hG h hm N1 R
  have f0 : (do_ == 0) = false := by simp; omega
  have f1 : (do_ == 1) = false := by simp; omega
  have f2 : (do_ == 2) = false := by simp; omega
  have f3 : (do_ == 3) = false := by simp; omega
  have f4 : (do_ == 4) = false := by simp; omega
  have f5 : (do_ == 5) = false := by simp; omega
  have f6 : (do_ == 6) = false := by simp; omega
  have f7 : (do_ == 7) = false := by simp; omega
  have f8 : (do_ == 8) = false := by simp; omega
  clear hd e1 e3 e5 e6 e7
  go_enter Try.func20, Try.ntmps20
  go_wp2
  go_ret
  exact ⟨rfl, _, _, N0.out⟩

/-- Whatever the operation is. -/
theorem lstep (h : BL w wr d p S S F G) (hm : S.pend.length < 2199023255552) (o : OpD) (ho : OpIs w o) :
    Calls Try.prog 20 #[.pointer (some ⟨d, 0, none⟩), .pointer (some ⟨p, 0, none⟩), .agg #[.int .i64 o.do_, .int .i64 o.n, .slice o.A1 o.n1 o.c1, .slice o.A2 o.n2 o.c2]] wr (StepIs w d p (stepS S o)) := by
  obtain ⟨do_, nn, A1, n1, c1, z1, A2, n2, c2, z2⟩ := o
  obtain ⟨rd, rn, b1, l1, m1, b2, l2, m2⟩ := ho
  simp only at rd rn b1 l1 m1 b2 l2 m2 ⊢
  unfold stepS
  simp only
  rcases (show do_ = 0 ∨ do_ = 1 ∨ do_ = 2 ∨ do_ = 3 ∨ do_ = 4 ∨ do_ = 5 ∨ do_ = 6 ∨ do_ = 7 ∨ do_ = 8 ∨ (do_ < 0 ∨ 8 < do_) by omega) with rfl | rfl | rfl | rfl | rfl | rfl | rfl | rfl | rfl | hd
  · exact step_write h hm nn A1 n1 c1 z1 b1 l1 A2 n2 c2
  · exact step_sync h hm nn A1 n1 c1 A2 n2 c2
  · exact step_plan h hm nn A1 n1 c1 A2 n2 c2 rn
  · exact step_read h hm nn A1 n1 c1 A2 n2 c2
  · exact step_crash h hm nn A1 n1 c1 A2 n2 c2 z2 b2 (by omega)
  · exact step_off h hm nn A1 n1 c1 A2 n2 c2
  · exact step_pending h hm nn A1 n1 c1 A2 n2 c2
  · exact step_image h hm nn A1 n1 c1 A2 n2 c2
  · exact step_counts h hm nn A1 n1 c1 A2 n2 c2
  · rw [if_neg (by omega), if_neg (by omega), if_neg (by omega), if_neg (by omega)]
    exact step_other h hm do_ nn A1 n1 c1 A2 n2 c2 hd
end
end Go.Proofs.Ytapjgancaldgaaa
