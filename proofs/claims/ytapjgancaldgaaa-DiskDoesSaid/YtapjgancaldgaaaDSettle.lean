/- The calls of block.list and of settle. -/
import Derived.Test.YtapjgancaldgaaaDAgg
namespace Go.Proofs.Ytapjgancaldgaaa
set_option maxRecDepth 100000
open Go.RowKit

theorem dlist (cs : List Value) (w : World) (hl : cs.length = 64) :
    Calls Try.prog 84 #[.agg cs.toArray] w fun e w' => e = .returned (.slice (some ⟨w.heap.size, 0, none⟩) 64 64) ∧ w' = w.alloc (.cells cs.toArray 95) := by
  go_enter Try.func84, Try.ntmps84
  go_wp2
  go_ret
  exact ⟨rfl, rfl⟩

/-- What settle makes of the lasting blocks. -/
def settleL (l : List Cn) (x : Wr) (k : Int) : List Cn := if k = 1 then l.set x.p ⟨x.b, false⟩ else if k = 2 then l.set x.p ⟨zero64, true⟩ else l

def SettleIs (F : Nat → Prop) (w : World) (d : Nat) (S : St) (nw : List Int) (vl vp vn : Value) (x : Wr) (k : Int) (e : Ending) (w' : World) : Prop :=
  e = .returned (.tuple #[]) ∧ Dv F w' d { S with last := settleL S.last x k } nw vl vp vn ∧ Out F w w'

theorem settle_laid {F : Nat → Prop} {w : World} {d g cap : Nat} {S : St} {nw : List Int} {vp vn : Value} (h : Dv F w d S nw (.slice (some ⟨g, 0, none⟩) S.last.length cap) vp vn) (x : Wr) (hp : x.p < S.last.length) (c : Cn) (hc : B64 c.b) (W : World) (A B : Obj) (hW : W = (w.alloc A).alloc B) :
    (storeCells ⟨g, x.p * 65, none⟩ c.cells 0).run Try.prog W.drew = .ok () (W.drew.setCells g (x.p * 65) c.cells) ∧ Dv F (W.drew.setCells g (x.p * 65) c.cells) d { S with last := S.last.set x.p c } nw (.slice (some ⟨g, 0, none⟩) S.last.length cap) vp vn ∧ Out F w (W.drew.setCells g (x.p * 65) c.cells) := by
  subst hW
  have hd := (h.alloc A |>.alloc B).drew
  have hle : x.p * 65 + 65 ≤ (S.last.flatMap Cn.cells).length := by
    rw [flat_len' S.last (fun y hy => Cn.len (h.wf.lb y hy))]
    omega
  refine ⟨run_storeInto _ _ _ _ (own_there hd.last _ _ (by rw [Cn.len hc]; exact hle)) (Cn.one c), hd.setLast x.p hp c hc, ?_⟩
  exact (((Out.refl F w).alloc A |>.alloc B).drew).setCells (.inl (h.fl g rfl).1) _ _

theorem dsettle1 {F : Nat → Prop} {w : World} {d : Nat} {S : St} {nw : List Int} {vl vp vn : Value} (h : Dv F w d S nw vl vp vn) (x : Wr) (hx : B64 x.b) (hp : x.p < S.last.length) :
    Calls Try.prog 56 #[.pointer (some ⟨d, 0, none⟩), .agg x.cells.toArray, .int .i64 1] w (SettleIs F w d S nw vl vp vn x 1) := by
  obtain ⟨g, cap, rfl, hF, hgd⟩ := h.lform
  have hz := run_zero80
  have hs80 := z80_size
  obtain ⟨W1, hW1⟩ : ∃ W, W = (w.alloc (.cells x.cells.toArray 100)).alloc (.cells (Cn.cells ⟨zero64, true⟩).toArray 97) := ⟨_, rfl⟩
  obtain ⟨W2, hW2⟩ : ∃ W, W = (w.alloc (.cells x.cells.toArray 100)).alloc (.cells (Cn.cells ⟨x.b, false⟩).toArray 97) := ⟨_, rfl⟩
  have hst : (storeCells ⟨w.heap.size + 1, 0, none⟩ (z80.toList.set 64 (.bool true)) 0).run Try.prog ((w.alloc (.cells x.cells.toArray 100)).alloc (.cells z80 97)) = .ok () W1 := by
    rw [hW1]
    have := run_storeNew (P := Try.prog) (w.alloc (.cells x.cells.toArray 100)) 97 z80 (Cn.cells ⟨zero64, true⟩).toArray _ (by rfl) (by rfl) (by rfl) (by simpa using Cn.one _)
    rw [← z80_torn] at this ⊢
    simpa using this
  have hcl : (Cn.cells ⟨x.b, false⟩).length = 65 := Cn.len hx
  have hst2 : (storeCells ⟨w.heap.size + 1, 0, none⟩ (Cn.cells ⟨x.b, false⟩) 0).run Try.prog W1 = .ok () W2 := by
    rw [hW1, hW2]
    have := run_storeNew (P := Try.prog) (w.alloc (.cells x.cells.toArray 100)) 97 (Cn.cells ⟨zero64, true⟩).toArray (Cn.cells ⟨x.b, false⟩).toArray _ (by rfl) (by simp [hcl]; rfl) (by simp [hcl]; rfl) (by simpa using Cn.one _)
    simpa using this
  have hr : W1.rangeAt w.heap.size 1 (bc x.b) := fun j v hv => by
    rw [hW1, cell_of_row _ _ _ _ _ _ (heap_alloc2_old _ _ _)]
    simp [Wr.cells, Nat.add_comm 1 j, hv]
  have c0 : W2.cell? ⟨w.heap.size, 0, none⟩ = some (.int .i64 (x.p : Int)) := by
    rw [hW2, cell_of_row _ _ _ _ _ _ (heap_alloc2_old _ _ _)]; rfl
  have c1 : W2.cell? ⟨d, 0, none⟩ = some (.slice (some ⟨g, 0, none⟩) S.last.length cap) := by
    rw [hW2]; exact ((h.alloc _).alloc _).cell 0
  have hr6 : W2.drew.rangeAt (w.heap.size + 1) 0 (Cn.cells ⟨x.b, false⟩) := fun j v hv => by
    rw [World.cell?_drew, hW2, cell_of_row _ _ _ _ _ _ (heap_alloc2_new _ _ _)]
    simpa using hv
  obtain ⟨k1, k2, k3⟩ := settle_laid h x hp ⟨x.b, false⟩ hx W2 _ _ hW2
  generalize W2.drew.setCells g (x.p * 65) (Cn.cells ⟨x.b, false⟩) = W3 at k1 k2 k3
  clear hW1 hW2
  have HR := Lib.hid hr
  have HR6 := Lib.hid hr6
  clear hr hr6
  have HI := Lib.hid (show (Try.prog.info? 95).map (·.size) = some (bc x.b).length by rw [bc_len, hx.len]; rfl)
  have HI6 := Lib.hid (show (Try.prog.info? 97).map (·.size) = some (Cn.cells ⟨x.b, false⟩).length by rw [hcl]; rfl)
  have hbl : (bc x.b).length = 64 := by rw [bc_len, hx.len]
  have hfo := fold80 hx
  have hi1 : (x.p : Int) < (S.last.length : Int) := by omega
  go_enter Try.func56, Try.ntmps56
  go_upto_region 6 with (with_reducible refine wpList_load_mid rfl 95 (.tmp 13) rfl w.heap.size 1 rfl (bc x.b) _ HR.out Try.underlying95 rfl HI.out ?_)
  clear HR hst hst2 hz hfo HI
  refine wp_region_still_tail 8 (by kernel_rfl) (by kernel_rfl) ?_
  simp only [List.take_succ_cons, List.take_zero, List.drop_succ_cons, List.drop_zero]
  change wpStill _ _ W2.drew _ _ _
  iterate 6 still_step
  refine wpStill_load rfl 97 (.tmp 6) rfl (w.heap.size + 1) 0 rfl _ _ HR6.out Try.underlying97 rfl HI6.out ?_
  still_step
  refine wpStill_nil ?_
  change wpList _ _ _ _ _ W2.drew
  go_wp2
  go_end0
  exact ⟨rfl, k2, k3⟩

theorem dsettle2 {F : Nat → Prop} {w : World} {d : Nat} {S : St} {nw : List Int} {vl vp vn : Value} (h : Dv F w d S nw vl vp vn) (x : Wr) (hp : x.p < S.last.length) :
    Calls Try.prog 56 #[.pointer (some ⟨d, 0, none⟩), .agg x.cells.toArray, .int .i64 2] w (SettleIs F w d S nw vl vp vn x 2) := by
  obtain ⟨g, cap, rfl, hF, hgd⟩ := h.lform
  have hz := run_zero80
  have hs80 := z80_size
  obtain ⟨W2, hW2⟩ : ∃ W, W = (w.alloc (.cells x.cells.toArray 100)).alloc (.cells (Cn.cells ⟨zero64, true⟩).toArray 97) := ⟨_, rfl⟩
  have hst : (storeCells ⟨w.heap.size + 1, 0, none⟩ (z80.toList.set 64 (.bool true)) 0).run Try.prog ((w.alloc (.cells x.cells.toArray 100)).alloc (.cells z80 97)) = .ok () W2 := by
    rw [hW2]
    have := run_storeNew (P := Try.prog) (w.alloc (.cells x.cells.toArray 100)) 97 z80 (Cn.cells ⟨zero64, true⟩).toArray _ (by rfl) (by rfl) (by rfl) (by simpa using Cn.one _)
    rw [← z80_torn] at this ⊢
    simpa using this
  have hcl : (Cn.cells ⟨zero64, true⟩).length = 65 := rfl
  have c0 : W2.cell? ⟨w.heap.size, 0, none⟩ = some (.int .i64 (x.p : Int)) := by
    rw [hW2, cell_of_row _ _ _ _ _ _ (heap_alloc2_old _ _ _)]; rfl
  have c1 : W2.cell? ⟨d, 0, none⟩ = some (.slice (some ⟨g, 0, none⟩) S.last.length cap) := by
    rw [hW2]; exact ((h.alloc _).alloc _).cell 0
  have hr6 : W2.drew.rangeAt (w.heap.size + 1) 0 (Cn.cells ⟨zero64, true⟩) := fun j v hv => by
    rw [World.cell?_drew, hW2, cell_of_row _ _ _ _ _ _ (heap_alloc2_new _ _ _)]
    simpa using hv
  obtain ⟨k1, k2, k3⟩ := settle_laid h x hp ⟨zero64, true⟩ b64_zero W2 _ _ hW2
  generalize W2.drew.setCells g (x.p * 65) (Cn.cells ⟨zero64, true⟩) = W3 at k1 k2 k3
  clear hW2
  have HR6 := Lib.hid hr6
  clear hr6
  have HI6 := Lib.hid (show (Try.prog.info? 97).map (·.size) = some (Cn.cells ⟨zero64, true⟩).length by rw [hcl]; rfl)
  have hi1 : (x.p : Int) < (S.last.length : Int) := by omega
  go_enter Try.func56, Try.ntmps56
  go_upto_region 6 with fail
  clear hst hz
  refine wp_region_still_tail 8 (by kernel_rfl) (by kernel_rfl) ?_
  simp only [List.take_succ_cons, List.take_zero, List.drop_succ_cons, List.drop_zero]
  change wpStill _ _ W2.drew _ _ _
  iterate 6 still_step
  refine wpStill_load rfl 97 (.tmp 6) rfl (w.heap.size + 1) 0 rfl _ _ HR6.out Try.underlying97 rfl HI6.out ?_
  still_step
  refine wpStill_nil ?_
  change wpList _ _ _ _ _ W2.drew
  go_wp2
  go_end0
  exact ⟨rfl, k2, k3⟩

theorem dsettle0 {F : Nat → Prop} {w : World} {d : Nat} {S : St} {nw : List Int} {vl vp vn : Value} (h : Dv F w d S nw vl vp vn) (x : Wr) :
    Calls Try.prog 56 #[.pointer (some ⟨d, 0, none⟩), .agg x.cells.toArray, .int .i64 0] w (SettleIs F w d S nw vl vp vn x 0) := by
  have hz := run_zero80
  have hs80 := z80_size
  obtain ⟨W1, hW1⟩ : ∃ W, W = (w.alloc (.cells x.cells.toArray 100)).alloc (.cells (Cn.cells ⟨zero64, true⟩).toArray 97) := ⟨_, rfl⟩
  have hst : (storeCells ⟨w.heap.size + 1, 0, none⟩ (z80.toList.set 64 (.bool true)) 0).run Try.prog ((w.alloc (.cells x.cells.toArray 100)).alloc (.cells z80 97)) = .ok () W1 := by
    rw [hW1]
    have := run_storeNew (P := Try.prog) (w.alloc (.cells x.cells.toArray 100)) 97 z80 (Cn.cells ⟨zero64, true⟩).toArray _ (by rfl) (by rfl) (by rfl) (by simpa using Cn.one _)
    rw [← z80_torn] at this ⊢
    simpa using this
  have HE := Lib.hid (show Dv F W1 d S nw vl vp vn ∧ Out F w W1 by rw [hW1]; exact ⟨(h.alloc _).alloc _, ((Out.refl F w).alloc _).alloc _⟩)
  clear hW1
  go_enter Try.func56, Try.ntmps56
  go_wp2
  go_end0
  exact ⟨rfl, HE.out⟩

theorem dsettle {F : Nat → Prop} {w : World} {d : Nat} {S : St} {nw : List Int} {vl vp vn : Value} (h : Dv F w d S nw vl vp vn) (x : Wr) (hx : B64 x.b) (hp : x.p < S.last.length) (k : Int) (hk : k = 0 ∨ k = 1 ∨ k = 2) :
    Calls Try.prog 56 #[.pointer (some ⟨d, 0, none⟩), .agg x.cells.toArray, .int .i64 k] w (SettleIs F w d S nw vl vp vn x k) := by
  rcases hk with rfl | rfl | rfl
  · exact dsettle0 h x
  · exact dsettle1 h x hx hp
  · exact dsettle2 h x hp
end Go.Proofs.Ytapjgancaldgaaa
