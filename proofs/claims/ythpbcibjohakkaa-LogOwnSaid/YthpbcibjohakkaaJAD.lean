import Derived.Test.YthpbcibjohakkaaJAC
/- The calls of block.list and of settle. -/
namespace Go.Proofs.Ythpbcibjohakkaa
set_option maxRecDepth 100000
open Go.RowKit

theorem dlist (cs : List Value) (w : World) (hl : cs.length = 64) :
    Calls Try.prog 72 #[.agg cs.toArray] w fun e w' => e = .returned (.slice (some ⟨w.heap.size, 0, none⟩) 64 64) ∧ w' = w.alloc (.cells cs.toArray 70) := by
  go_enter Try.func72, Try.ntmps72
  go_wp2
  go_ret
  exact ⟨rfl, rfl⟩

/-- What settle makes of the lasting blocks. -/
def settleL (l : List Cn) (x : Wr) (k : Int) : List Cn := if k = 1 then l.set x.p ⟨x.b, false⟩ else if k = 2 then l.set x.p ⟨zero64, true⟩ else l

def SettleIs (F : Nat → Prop) (w : World) (d : Nat) (S : St) (nw : List Int) (vl vp vn : Value) (x : Wr) (k : Int) (e : Ending) (w' : World) : Prop :=
  e = .returned (.tuple #[]) ∧ Dv F w' d { S with last := settleL S.last x k } nw vl vp vn ∧ Out F w w'

theorem settle_laid {F : Nat → Prop} {w : World} {d g cap : Nat} {S : St} {nw : List Int} {vp vn : Value} (h : Dv F w d S nw (.slice (some ⟨g, 0, none⟩) S.last.length cap) vp vn) (x : Wr) (hp : x.p < S.last.length) (c : Cn) (hc : B64 c.b) (W : World) (A B : Obj) (hW : W = (w.alloc A).alloc B) :
    (storeCells ⟨g, x.p * 65, none⟩ c.cells 0).run Try.prog W.drew = .ok () (W.drew.setCells g (x.p * 65) c.cells) ∧ Dv F (W.drew.setCells g (x.p * 65) c.cells) d { S with last := S.last.set x.p c } nw (.slice (some ⟨g, 0, none⟩) S.last.length cap) vp vn ∧ Out F w (W.drew.setCells g (x.p * 65) c.cells) := by
  subst hW
  have hd := (h.alloc A |>.alloc B).drew
  have hle : x.p * 65 + 65 ≤ (S.last.flatMap Cn.cells).length := by
    rw [flat_len' S.last (fun y hy => Cn.len (h.wf.lb y hy))]
    omega
  refine ⟨run_storeInto _ _ _ _ (own_there hd.last _ _ (by rw [Cn.len hc]; exact hle)) (Cn.one c), hd.setLast x.p hp c hc, ?_⟩
  exact (((Out.refl F w).alloc A |>.alloc B).drew).setCells (.inl (h.fl g rfl).1) _ _

theorem dsettle1 {F : Nat → Prop} {w : World} {d : Nat} {S : St} {nw : List Int} {vl vp vn : Value} (h : Dv F w d S nw vl vp vn) (x : Wr) (hx : B64 x.b) (hp : x.p < S.last.length) :
    Calls Try.prog 40 #[.pointer (some ⟨d, 0, none⟩), .agg x.cells.toArray, .int .i64 1] w (SettleIs F w d S nw vl vp vn x 1) := by
  obtain ⟨g, cap, rfl, hF, hgd⟩ := h.lform
  have hz := run_zero80
  have hs80 := z80_size
  obtain ⟨W1, hW1⟩ : ∃ W, W = (w.alloc (.cells x.cells.toArray 81)).alloc (.cells (Cn.cells ⟨zero64, true⟩).toArray 72) := ⟨_, rfl⟩
  obtain ⟨W2, hW2⟩ : ∃ W, W = (w.alloc (.cells x.cells.toArray 81)).alloc (.cells (Cn.cells ⟨x.b, false⟩).toArray 72) := ⟨_, rfl⟩
  have hst : (storeCells ⟨w.heap.size + 1, 0, none⟩ (z80.toList.set 64 (.bool true)) 0).run Try.prog ((w.alloc (.cells x.cells.toArray 81)).alloc (.cells z80 72)) = .ok () W1 := by
    rw [hW1]
    have := run_storeNew (P := Try.prog) (w.alloc (.cells x.cells.toArray 81)) 72 z80 (Cn.cells ⟨zero64, true⟩).toArray _ (by rfl) (by rfl) (by rfl) (by simpa using Cn.one _)
    rw [← z80_torn] at this ⊢
    simpa using this
  have hcl : (Cn.cells ⟨x.b, false⟩).length = 65 := Cn.len hx
  have hst2 : (storeCells ⟨w.heap.size + 1, 0, none⟩ (Cn.cells ⟨x.b, false⟩) 0).run Try.prog W1 = .ok () W2 := by
    rw [hW1, hW2]
    have := run_storeNew (P := Try.prog) (w.alloc (.cells x.cells.toArray 81)) 72 (Cn.cells ⟨zero64, true⟩).toArray (Cn.cells ⟨x.b, false⟩).toArray _ (by rfl) (by simp [hcl]; rfl) (by simp [hcl]; rfl) (by simpa using Cn.one _)
    simpa using this
  have hr : W1.rangeAt w.heap.size 1 (bc x.b) := fun j v hv => by
    rw [hW1, cell_of_row _ _ _ _ _ _ (heap_alloc2_old _ _ _)]
    simp [Wr.cells, Nat.add_comm 1 j, hv]
  have c0 : W2.cell? ⟨w.heap.size, 0, none⟩ = some (.int .i64 (x.p : Int)) := by
    rw [hW2, cell_of_row _ _ _ _ _ _ (heap_alloc2_old _ _ _)]; rfl
  have c1 : W2.cell? ⟨d, 0, none⟩ = some (.slice (some ⟨g, 0, none⟩) S.last.length cap) := by
    rw [hW2]; exact ((h.alloc _).alloc _).cell 0
  have hr6 : W2.drew.rangeAt (w.heap.size + 1) 0 (Cn.cells ⟨x.b, false⟩) := fun j v hv => by
    rw [World.cell?_drew, hW2, cell_of_row _ _ _ _ _ _ (heap_alloc2_new _ _ _)]
    simpa using hv
  obtain ⟨k1, k2, k3⟩ := settle_laid h x hp ⟨x.b, false⟩ hx W2 _ _ hW2
  generalize W2.drew.setCells g (x.p * 65) (Cn.cells ⟨x.b, false⟩) = W3 at k1 k2 k3
  clear hW1 hW2
  have HR := Lib.hid hr
  have HR6 := Lib.hid hr6
  clear hr hr6
  have HI := Lib.hid (show (Try.prog.info? 70).map (·.size) = some (bc x.b).length by rw [bc_len, hx.len]; rfl)
  have HI6 := Lib.hid (show (Try.prog.info? 72).map (·.size) = some (Cn.cells ⟨x.b, false⟩).length by rw [hcl]; rfl)
  have hbl : (bc x.b).length = 64 := by rw [bc_len, hx.len]
  have hfo := fold80 hx
  have hi1 : (x.p : Int) < (S.last.length : Int) := by omega
  go_enter Try.func40, Try.ntmps40
  go_upto_region 6 with (with_reducible refine wpList_load_mid rfl 70 (.tmp 13) rfl w.heap.size 1 rfl (bc x.b) _ HR.out Try.underlying70 rfl HI.out ?_)
  clear HR hst hst2 hz hfo HI
  refine wp_region_still_tail 8 (by kernel_rfl) (by kernel_rfl) ?_
  simp only [List.take_succ_cons, List.take_zero, List.drop_succ_cons, List.drop_zero]
  change wpStill _ _ W2.drew _ _ _
  iterate 6 still_step
  refine wpStill_load rfl 72 (.tmp 6) rfl (w.heap.size + 1) 0 rfl _ _ HR6.out Try.underlying72 rfl HI6.out ?_
  still_step
  refine wpStill_nil ?_
  change wpList _ _ _ _ _ W2.drew
  go_wp2
  go_end0
  exact ⟨rfl, k2, k3⟩

theorem dsettle2 {F : Nat → Prop} {w : World} {d : Nat} {S : St} {nw : List Int} {vl vp vn : Value} (h : Dv F w d S nw vl vp vn) (x : Wr) (hp : x.p < S.last.length) :
    Calls Try.prog 40 #[.pointer (some ⟨d, 0, none⟩), .agg x.cells.toArray, .int .i64 2] w (SettleIs F w d S nw vl vp vn x 2) := by
  obtain ⟨g, cap, rfl, hF, hgd⟩ := h.lform
  have hz := run_zero80
  have hs80 := z80_size
  obtain ⟨W2, hW2⟩ : ∃ W, W = (w.alloc (.cells x.cells.toArray 81)).alloc (.cells (Cn.cells ⟨zero64, true⟩).toArray 72) := ⟨_, rfl⟩
  have hst : (storeCells ⟨w.heap.size + 1, 0, none⟩ (z80.toList.set 64 (.bool true)) 0).run Try.prog ((w.alloc (.cells x.cells.toArray 81)).alloc (.cells z80 72)) = .ok () W2 := by
    rw [hW2]
    have := run_storeNew (P := Try.prog) (w.alloc (.cells x.cells.toArray 81)) 72 z80 (Cn.cells ⟨zero64, true⟩).toArray _ (by rfl) (by rfl) (by rfl) (by simpa using Cn.one _)
    rw [← z80_torn] at this ⊢
    simpa using this
  have hcl : (Cn.cells ⟨zero64, true⟩).length = 65 := rfl
  have c0 : W2.cell? ⟨w.heap.size, 0, none⟩ = some (.int .i64 (x.p : Int)) := by
    rw [hW2, cell_of_row _ _ _ _ _ _ (heap_alloc2_old _ _ _)]; rfl
  have c1 : W2.cell? ⟨d, 0, none⟩ = some (.slice (some ⟨g, 0, none⟩) S.last.length cap) := by
    rw [hW2]; exact ((h.alloc _).alloc _).cell 0
  have hr6 : W2.drew.rangeAt (w.heap.size + 1) 0 (Cn.cells ⟨zero64, true⟩) := fun j v hv => by
    rw [World.cell?_drew, hW2, cell_of_row _ _ _ _ _ _ (heap_alloc2_new _ _ _)]
    simpa using hv
  obtain ⟨k1, k2, k3⟩ := settle_laid h x hp ⟨zero64, true⟩ b64_zero W2 _ _ hW2
  generalize W2.drew.setCells g (x.p * 65) (Cn.cells ⟨zero64, true⟩) = W3 at k1 k2 k3
  clear hW2
  have HR6 := Lib.hid hr6
  clear hr6
  have HI6 := Lib.hid (show (Try.prog.info? 72).map (·.size) = some (Cn.cells ⟨zero64, true⟩).length by rw [hcl]; rfl)
  have hi1 : (x.p : Int) < (S.last.length : Int) := by omega
  go_enter Try.func40, Try.ntmps40
  go_upto_region 6 with fail
  clear hst hz
  refine wp_region_still_tail 8 (by kernel_rfl) (by kernel_rfl) ?_
  simp only [List.take_succ_cons, List.take_zero, List.drop_succ_cons, List.drop_zero]
  change wpStill _ _ W2.drew _ _ _
  iterate 6 still_step
  refine wpStill_load rfl 72 (.tmp 6) rfl (w.heap.size + 1) 0 rfl _ _ HR6.out Try.underlying72 rfl HI6.out ?_
  still_step
  refine wpStill_nil ?_
  change wpList _ _ _ _ _ W2.drew
  go_wp2
  go_end0
  exact ⟨rfl, k2, k3⟩

theorem dsettle0 {F : Nat → Prop} {w : World} {d : Nat} {S : St} {nw : List Int} {vl vp vn : Value} (h : Dv F w d S nw vl vp vn) (x : Wr) :
    Calls Try.prog 40 #[.pointer (some ⟨d, 0, none⟩), .agg x.cells.toArray, .int .i64 0] w (SettleIs F w d S nw vl vp vn x 0) := by
  have hz := run_zero80
  have hs80 := z80_size
  obtain ⟨W1, hW1⟩ : ∃ W, W = (w.alloc (.cells x.cells.toArray 81)).alloc (.cells (Cn.cells ⟨zero64, true⟩).toArray 72) := ⟨_, rfl⟩
  have hst : (storeCells ⟨w.heap.size + 1, 0, none⟩ (z80.toList.set 64 (.bool true)) 0).run Try.prog ((w.alloc (.cells x.cells.toArray 81)).alloc (.cells z80 72)) = .ok () W1 := by
    rw [hW1]
    have := run_storeNew (P := Try.prog) (w.alloc (.cells x.cells.toArray 81)) 72 z80 (Cn.cells ⟨zero64, true⟩).toArray _ (by rfl) (by rfl) (by rfl) (by simpa using Cn.one _)
    rw [← z80_torn] at this ⊢
    simpa using this
  have HE := Lib.hid (show Dv F W1 d S nw vl vp vn ∧ Out F w W1 by rw [hW1]; exact ⟨(h.alloc _).alloc _, ((Out.refl F w).alloc _).alloc _⟩)
  clear hW1
  go_enter Try.func40, Try.ntmps40
  go_wp2
  go_end0
  exact ⟨rfl, HE.out⟩

theorem dsettle {F : Nat → Prop} {w : World} {d : Nat} {S : St} {nw : List Int} {vl vp vn : Value} (h : Dv F w d S nw vl vp vn) (x : Wr) (hx : B64 x.b) (hp : x.p < S.last.length) (k : Int) (hk : k = 0 ∨ k = 1 ∨ k = 2) :
    Calls Try.prog 40 #[.pointer (some ⟨d, 0, none⟩), .agg x.cells.toArray, .int .i64 k] w (SettleIs F w d S nw vl vp vn x k) := by
  rcases hk with rfl | rfl | rfl
  · exact dsettle0 h x
  · exact dsettle1 h x hx hp
  · exact dsettle2 h x hp
end Go.Proofs.Ythpbcibjohakkaa

/- The small calls of a disk: made, has, refuses, refusesAll, spend, Off, Blocks, Counts, Plan. -/
namespace Go.Proofs.Ythpbcibjohakkaa
set_option maxRecDepth 100000
open Go.RowKit

section
variable {F : Nat → Prop} {w : World} {d : Nat} {S : St} {nw : List Int} {vl vp vn : Value}
theorem Dv.c0 (h : Dv F w d S nw vl vp vn) : w.cell? ⟨d, 0, none⟩ = some vl := h.cell 0
theorem Dv.c1 (h : Dv F w d S nw vl vp vn) : w.cell? ⟨d, 1, none⟩ = some vp := h.cell 1
theorem Dv.c2 (h : Dv F w d S nw vl vp vn) : w.cell? ⟨d, 2, none⟩ = some vn := h.cell 2
theorem Dv.c3 (h : Dv F w d S nw vl vp vn) : w.cell? ⟨d, 3, none⟩ = some (.bool S.off) := h.cell 3
theorem Dv.c4 (h : Dv F w d S nw vl vp vn) : w.cell? ⟨d, 4, none⟩ = some (.int .i64 S.plan) := h.cell 4
theorem Dv.c5 (h : Dv F w d S nw vl vp vn) : w.cell? ⟨d, 5, none⟩ = some (.int .i64 S.writes) := h.cell 5
theorem Dv.c6 (h : Dv F w d S nw vl vp vn) : w.cell? ⟨d, 6, none⟩ = some (.int .i64 S.syncs) := h.cell 6

theorem dmade (h : Dv F w d S nw vl vp vn) : Calls Try.prog 31 #[.pointer (some ⟨d, 0, none⟩)] w fun e w' => e = .returned (.bool true) ∧ w = w' := by
  obtain ⟨g, cap, rfl, hF, hgd⟩ := h.lform
  have c0 := h.c0
  have hlo := h.wf.lo
  have hp : (0 : Int) < (S.last.length : Int) := by omega
  go_enter Try.func31, Try.ntmps31
  go_wp2
  go_ret
  exact ⟨by simp; omega, rfl⟩
theorem dhas (h : Dv F w d S nw vl vp vn) (n : Int) : Calls Try.prog 35 #[.pointer (some ⟨d, 0, none⟩), .int .i64 n] w fun e w' => e = .returned (.bool (decide (0 ≤ n ∧ n < (S.last.length : Int)))) ∧ w = w' := by
  obtain ⟨g, cap, rfl, hF, hgd⟩ := h.lform
  have c0 := h.c0
  by_cases h1 : 0 ≤ n
  · by_cases h2 : n < (S.last.length : Int)
    · go_enter Try.func35, Try.ntmps35
      go_wp2
      go_ret
      exact ⟨by simp [h1, h2], rfl⟩
    · have h3 : decide (n < (S.last.length : Int)) = false := by simp; omega
      go_enter Try.func35, Try.ntmps35
      go_wp2
      go_ret
      exact ⟨by simp [h3], rfl⟩
  · have h3 : decide (0 ≤ n) = false := by simp; omega
    go_enter Try.func35, Try.ntmps35
    go_wp2
    go_ret
    exact ⟨by simp [h1], rfl⟩
theorem drefusesAll (h : Dv F w d S nw vl vp vn) : Calls Try.prog 48 #[.pointer (some ⟨d, 0, none⟩)] w fun e w' => e = .returned (.int .i64 (if S.off then 22 else 0)) ∧ w = w' := by
  have c3 := h.c3
  cases ho : S.off with
  | true =>
    rw [ho] at c3
    go_enter Try.func48, Try.ntmps48
    go_wp2_with (go_at_call 31; refine (dmade h).mono ?_; rintro e w' ⟨rfl, rfl⟩)
    go_ret
    exact ⟨rfl, rfl⟩
  | false =>
    rw [ho] at c3
    go_enter Try.func48, Try.ntmps48
    go_wp2_with (go_at_call 31; refine (dmade h).mono ?_; rintro e w' ⟨rfl, rfl⟩)
    go_ret
    exact ⟨rfl, rfl⟩
theorem drefuses (h : Dv F w d S nw vl vp vn) (n : Int) : Calls Try.prog 66 #[.pointer (some ⟨d, 0, none⟩), .int .i64 n] w fun e w' => e = .returned (.int .i64 (if S.off then 22 else if 0 ≤ n ∧ n < (S.last.length : Int) then 0 else 20)) ∧ w = w' := by
  have r := drefusesAll h
  cases ho : S.off with
  | true =>
    rw [ho] at r
    go_enter Try.func66, Try.ntmps66
    go_wp2_with (go_at_call 48; refine r.mono ?_; rintro e w' ⟨rfl, rfl⟩)
    go_ret
    exact ⟨rfl, rfl⟩
  | false =>
    rw [ho] at r
    have hs := dhas h n
    by_cases hn : 0 ≤ n ∧ n < (S.last.length : Int)
    · rw [decide_eq_true hn] at hs
      rw [if_pos hn]
      go_enter Try.func66, Try.ntmps66
      go_wp2_with (first
        | (go_at_call 48; refine r.mono ?_; rintro e w' ⟨rfl, rfl⟩)
        | (go_at_call 35; refine hs.mono ?_; rintro e w' ⟨rfl, rfl⟩))
      go_ret
      exact ⟨rfl, rfl⟩
    · rw [decide_eq_false hn] at hs
      rw [if_neg hn]
      go_enter Try.func66, Try.ntmps66
      go_wp2_with (first
        | (go_at_call 48; refine r.mono ?_; rintro e w' ⟨rfl, rfl⟩)
        | (go_at_call 35; refine hs.mono ?_; rintro e w' ⟨rfl, rfl⟩))
      go_ret
      exact ⟨rfl, rfl⟩

/-- One taken from the plan. -/
def spendS (S : St) : St := if S.plan = -1 then S else if S.plan = 0 then { S with off := true, plan := -1 } else { S with plan := S.plan - 1 }
def spendE (S : St) : Int := if S.plan = 0 then 22 else 0
theorem spendS_last (S : St) : (spendS S).last = S.last := by unfold spendS; split <;> (try split) <;> rfl
theorem spendS_pend (S : St) : (spendS S).pend = S.pend := by unfold spendS; split <;> (try split) <;> rfl

theorem dspend (h : Dv F w d S nw vl vp vn) : Calls Try.prog 67 #[.pointer (some ⟨d, 0, none⟩)] w fun e w' => e = .returned (.int .i64 (spendE S)) ∧ Dv F w' d (spendS S) nw vl vp vn ∧ Out F w w' := by
  have c4 := h.c4
  have f3 := h.frozen 3
  have f4 := h.frozen 4
  have c3 := h.c3
  have hpl := h.wf.pl
  unfold spendE spendS
  by_cases h1 : S.plan = -1
  · rw [h1] at c4
    rw [if_pos h1, if_neg (by omega)]
    have HH := Lib.hid h
    clear h h1 hpl
    go_enter Try.func67, Try.ntmps67
    go_wp2
    go_ret
    exact ⟨rfl, HH.out, Out.refl _ _⟩
  · rw [if_neg h1]
    by_cases h2 : S.plan = 0
    · rw [h2] at c4
      rw [if_pos h2, if_pos h2]
      have HH := Lib.hid (show Dv F ((w.setCell ⟨d, 3, none⟩ (.bool true)).setCell ⟨d, 4, none⟩ (.int .i64 (-1))) d { S with off := true, plan := -1 } nw vl vp vn ∧ Out F w ((w.setCell ⟨d, 3, none⟩ (.bool true)).setCell ⟨d, 4, none⟩ (.int .i64 (-1))) from ⟨(h.setOff true).setPlan (-1) (by omega), ((Out.refl F w).setCell (.inl h.fd) _).setCell (.inl h.fd) _⟩)
      clear h h1 h2 hpl
      go_enter Try.func67, Try.ntmps67
      go_wp2
      go_ret
      exact ⟨rfl, HH.out⟩
    · rw [if_neg h2, if_neg h2]
      have b1 : (S.plan == -1) = false := by simpa using h1
      have b2 : (S.plan == 0) = false := by simpa using h2
      have hb1 : -9223372036854775808 ≤ S.plan - 1 := by omega
      have hb2 : S.plan - 1 ≤ 9223372036854775807 := by omega
      have HH := Lib.hid (show Dv F (w.setCell ⟨d, 4, none⟩ (.int .i64 (S.plan - 1))) d { S with plan := S.plan - 1 } nw vl vp vn ∧ Out F w (w.setCell ⟨d, 4, none⟩ (.int .i64 (S.plan - 1))) from ⟨h.setPlan (S.plan - 1) (by omega), (Out.refl F w).setCell (.inl h.fd) _⟩)
      clear h h1 h2
      go_enter Try.func67, Try.ntmps67
      go_wp2
      go_ret
      exact ⟨rfl, HH.out⟩
theorem doff (h : Dv F w d S nw vl vp vn) : Calls Try.prog 30 #[.pointer (some ⟨d, 0, none⟩)] w fun e w' => e = .returned (.bool S.off) ∧ w = w' := by
  have c3 := h.c3
  go_enter Try.func30, Try.ntmps30
  go_wp2_with (go_at_call 31; refine (dmade h).mono ?_; rintro e w' ⟨rfl, rfl⟩)
  go_ret
  exact ⟨rfl, rfl⟩
theorem dblocks (h : Dv F w d S nw vl vp vn) : Calls Try.prog 17 #[.pointer (some ⟨d, 0, none⟩)] w fun e w' => e = .returned (.int .i64 (S.last.length : Int)) ∧ w = w' := by
  have hm := dmade h
  obtain ⟨g, cap, rfl, hF, hgd⟩ := h.lform
  have c0 := h.c0
  go_enter Try.func17, Try.ntmps17
  go_wp2_with (go_at_call 31; refine hm.mono ?_; rintro e w' ⟨rfl, rfl⟩)
  go_ret
  exact ⟨rfl, rfl⟩
theorem dcounts (h : Dv F w d S nw vl vp vn) : Calls Try.prog 12 #[.pointer (some ⟨d, 0, none⟩)] w fun e w' => e = .returned (.tuple #[.int .i64 S.writes, .int .i64 S.syncs]) ∧ w' = w.drew := by
  have c5 := h.c5
  have c6 := h.c6
  go_enter Try.func12, Try.ntmps12
  go_wp2_with (first
    | (go_at_call 31; refine (dmade h).mono ?_; rintro e w' ⟨rfl, rfl⟩)
    | go_still (by kernel_rfl))
  go_ret2
  exact ⟨rfl, rfl⟩
theorem dplan (h : Dv F w d S nw vl vp vn) (n : Int) (hn : -9223372036854775808 ≤ n ∧ n ≤ 9223372036854775807) : Calls Try.prog 29 #[.pointer (some ⟨d, 0, none⟩), .int .i64 n] w fun e w' => e = .returned (.int .i64 (if S.off then 22 else 0)) ∧ Dv F w' d (if S.off then S else { S with plan := max n (-1) }) nw vl vp vn ∧ Out F w w' := by
  have r := drefusesAll h
  have c4 := h.c4
  have f4 := h.frozen 4
  have HH := Lib.hid (show Dv F (w.setCell ⟨d, 4, none⟩ (.int .i64 (max n (-1)))) d { S with plan := max n (-1) } nw vl vp vn ∧ Out F w (w.setCell ⟨d, 4, none⟩ (.int .i64 (max n (-1)))) from ⟨h.setPlan (max n (-1)) (by omega), (Out.refl F w).setCell (.inl h.fd) _⟩)
  cases ho : S.off with
  | true =>
    rw [ho] at r
    have H0 := Lib.hid h
    clear h
    go_enter Try.func29, Try.ntmps29
    go_wp2_with (go_at_call 48; refine r.mono ?_; rintro e w' ⟨rfl, rfl⟩)
    go_ret
    exact ⟨rfl, H0.out, Out.refl _ _⟩
  | false =>
    rw [ho] at r
    clear h
    rcases Int.lt_or_le n (-1) with h1 | h1
    · rw [show max n (-1) = -1 by omega, ho] at HH
      rw [show max n (-1) = -1 by omega]
      go_enter Try.func29, Try.ntmps29
      go_wp2_with (go_at_call 48; refine r.mono ?_; rintro e w' ⟨rfl, rfl⟩)
      all_goals first | (exfalso; omega) | skip
      go_ret
      exact ⟨rfl, HH.out⟩
    · rw [show max n (-1) = n by omega, ho] at HH
      rw [show max n (-1) = n by omega]
      go_enter Try.func29, Try.ntmps29
      go_wp2_with (go_at_call 48; refine r.mono ?_; rintro e w' ⟨rfl, rfl⟩)
      all_goals first | (exfalso; omega) | skip
      go_ret
      exact ⟨rfl, HH.out⟩
end
end Go.Proofs.Ythpbcibjohakkaa
