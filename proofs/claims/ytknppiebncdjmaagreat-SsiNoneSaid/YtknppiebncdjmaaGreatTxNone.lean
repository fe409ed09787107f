/- Layer 10: a manager that no call made: what each call answers. -/
import Derived.Test.YtknppiebncdjmaaGreatJBR
namespace Go.Proofs.YtknppiebncdjmaaGreat
set_option maxRecDepth 100000
set_option maxRecDepth 100000
open Go.RowKit Go.Maps Go.ChangeMaps Go.MapKept

/-- No call made it. -/
def UN (w0 : World) (p : Value) : Prop := ∀ W, Below w0.heap.size w0 W → Calls Tryz.prog 40 #[p] W fun e w' => e = .returned (.bool false) ∧ w' = W
theorem UN.gw {w w' : World} {p : Value} (h : UN w p) (g : Below w.heap.size w w') : UN w' p := fun W hW => h W (below_next g hW)
theorem un_nil (w : World) : UN w (.pointer none) := fun W _ => by
  go_enter Tryz.func40, Tryz.ntmps40
  go_wp2
  go_ret
  exact ⟨rfl, rfl⟩
theorem un_zero {w : World} {b : Nat} (c : w.cell? ⟨b, 0, none⟩ = some (.int .i64 0)) : UN w (.pointer (some ⟨b, 0, none⟩)) := fun W hW => by
  have c0 := keep_below c hW
  clear c hW
  go_enter Tryz.func40, Tryz.ntmps40
  go_wp2
  go_ret
  exact ⟨by simp, rfl⟩
theorem un_ref {w : World} {p : Value} (h : UN w p) (tx : Int) : Calls Tryz.prog 48 #[p, .int .i64 tx] w fun e w' => e = .returned (.int .i64 2) ∧ w' = w := by
  have MN := Lib.hid (h w (Below.refl _ _))
  clear h
  go_enter Tryz.func48, Tryz.ntmps48
  go_wp2_with (go_at_call 40; go_loud (refine MN.out.mono ?_; rintro e w1 ⟨rfl, hw⟩; replace hw := hw.symm; subst hw))
  go_ret
  exact ⟨rfl, rfl⟩
theorem un_begin {w : World} {p : Value} (h : UN w p) : Calls Tryz.prog 15 #[p] w fun e w' => e = .returned (.tuple #[.int .i64 0, .int .i64 0, .int .i64 2]) ∧ w' = w := by
  have MN := Lib.hid (h w (Below.refl _ _))
  clear h
  go_enter Tryz.func15, Tryz.ntmps15
  go_wp2_with (go_at_call 40; go_loud (refine MN.out.mono ?_; rintro e w1 ⟨rfl, hw⟩; replace hw := hw.symm; subst hw))
  refine bodyPost_ret (v := .tuple #[.int .i64 0, .int .i64 0, .int .i64 2]) (by simp [results, Tryz.results15, go_sem]) rfl ⟨rfl, rfl⟩
theorem un_commit {w : World} {p : Value} (h : UN w p) (tx : Int) : Calls Tryz.prog 32 #[p, .int .i64 tx] w fun e w' => e = .returned (.tuple #[.int .i64 0, .int .i64 2]) ∧ w' = w := by
  have MN := Lib.hid (un_ref h tx)
  clear h
  go_enter Tryz.func32, Tryz.ntmps32
  go_wp2_with (go_at_call 48; go_loud (refine MN.out.mono ?_; rintro e w1 ⟨rfl, hw⟩; replace hw := hw.symm; subst hw))
  refine bodyPost_ret (v := .tuple #[.int .i64 0, .int .i64 2]) (by simp [results, Tryz.results32, go_sem]) rfl ⟨rfl, rfl⟩
theorem un_snap {w : World} {p : Value} (h : UN w p) (tx : Int) : Calls Tryz.prog 30 #[p, .int .i64 tx] w fun e w' => e = .returned (.tuple #[.int .i64 0, .int .i64 2]) ∧ w' = w := by
  have MN := Lib.hid (un_ref h tx)
  clear h
  go_enter Tryz.func30, Tryz.ntmps30
  go_wp2_with (go_at_call 48; go_loud (refine MN.out.mono ?_; rintro e w1 ⟨rfl, hw⟩; replace hw := hw.symm; subst hw))
  refine bodyPost_ret (v := .tuple #[.int .i64 0, .int .i64 2]) (by simp [results, Tryz.results30, go_sem]) rfl ⟨rfl, rfl⟩
theorem un_abort {w : World} {p : Value} (h : UN w p) (tx : Int) : Calls Tryz.prog 17 #[p, .int .i64 tx] w fun e w' => e = .returned (.int .i64 2) ∧ w' = w := by
  have MN := Lib.hid (un_ref h tx)
  clear h
  go_enter Tryz.func17, Tryz.ntmps17
  go_wp2_with (go_at_call 48; go_loud (refine MN.out.mono ?_; rintro e w1 ⟨rfl, hw⟩; replace hw := hw.symm; subst hw))
  go_ret
  exact ⟨rfl, rfl⟩
theorem un_scan {w : World} {p : Value} (h : UN w p) (tx : Int) (tb lo hi : ByteArray) : Calls Tryz.prog 33 #[p, .int .i64 tx, .string tb, .string lo, .string hi] w fun e w' => e = .returned (.int .i64 2) ∧ w' = w := by
  have MN := Lib.hid (un_ref h tx)
  clear h
  go_enter Tryz.func33, Tryz.ntmps33
  go_wp2_with (go_at_call 48; go_loud (refine MN.out.mono ?_; rintro e w1 ⟨rfl, hw⟩; replace hw := hw.symm; subst hw))
  go_ret
  exact ⟨rfl, rfl⟩
theorem un_read {w : World} {p : Value} (h : UN w p) (tx : Int) (tb ky : ByteArray) : Calls Tryz.prog 31 #[p, .int .i64 tx, .agg #[.string tb, .string ky]] w fun e w' => e = .returned (.int .i64 2) ∧ Below w.heap.size w w' := by
  have HB := Lib.hid (show Below w.heap.size w (w.alloc (.cells #[.string tb, .string ky] 42)) from (Below.refl _ _).alloc (Nat.le_refl _) _)
  have MN := Lib.hid (un_ref (h.gw HB.out) tx)
  clear h
  go_enter Tryz.func31, Tryz.ntmps31
  go_wp2_with (go_at_call 48; go_loud (refine MN.out.mono ?_; rintro e w1 ⟨rfl, hw⟩; replace hw := hw.symm; subst hw))
  go_ret
  exact ⟨rfl, HB.out⟩
theorem un_write {w : World} {p : Value} (h : UN w p) (tx : Int) (tb ky : ByteArray) (last : Int) : Calls Tryz.prog 16 #[p, .int .i64 tx, .agg #[.string tb, .string ky], .int .i64 last] w fun e w' => e = .returned (.int .i64 2) ∧ Below w.heap.size w w' := by
  have HB := Lib.hid (show Below w.heap.size w (w.alloc (.cells #[.string tb, .string ky] 42)) from (Below.refl _ _).alloc (Nat.le_refl _) _)
  have MN := Lib.hid (un_ref (h.gw HB.out) tx)
  clear h
  go_enter Tryz.func16, Tryz.ntmps16
  go_wp2_with (go_at_call 48; go_loud (refine MN.out.mono ?_; rintro e w1 ⟨rfl, hw⟩; replace hw := hw.symm; subst hw))
  go_ret
  exact ⟨rfl, HB.out⟩
theorem un_now {w : World} {p : Value} (h : UN w p) : Calls Tryz.prog 34 #[p] w fun e w' => e = .returned (.int .i64 0) ∧ w' = w := by
  have MN := Lib.hid (h w (Below.refl _ _))
  clear h
  go_enter Tryz.func34, Tryz.ntmps34
  go_wp2_with (go_at_call 40; go_loud (refine MN.out.mono ?_; rintro e w1 ⟨rfl, hw⟩; replace hw := hw.symm; subst hw))
  go_ret
  exact ⟨rfl, rfl⟩
theorem un_oldest {w : World} {p : Value} (h : UN w p) : Calls Tryz.prog 35 #[p] w fun e w' => e = .returned (.int .i64 0) ∧ w' = w := by
  have MN := Lib.hid (h w (Below.refl _ _))
  clear h
  go_enter Tryz.func35, Tryz.ntmps35
  go_wp2_with (go_at_call 40; go_loud (refine MN.out.mono ?_; rintro e w1 ⟨rfl, hw⟩; replace hw := hw.symm; subst hw))
  go_ret
  exact ⟨rfl, rfl⟩
theorem un_active {w : World} {p : Value} (h : UN w p) : Calls Tryz.prog 28 #[p] w fun e w' => e = .returned (.slice none 0 0) ∧ w' = w := by
  have MN := Lib.hid (h w (Below.refl _ _))
  clear h
  go_enter Tryz.func28, Tryz.ntmps28
  go_wp2_with (go_at_call 40; go_loud (refine MN.out.mono ?_; rintro e w1 ⟨rfl, hw⟩; replace hw := hw.symm; subst hw))
  go_ret
  exact ⟨rfl, rfl⟩
theorem un_clone {w : World} {p : Value} (h : UN w p) : Calls Tryz.prog 14 #[p] w fun e w' => e = .returned (.pointer none) ∧ w' = w := by
  have MN := Lib.hid (h w (Below.refl _ _))
  clear h
  go_enter Tryz.func14, Tryz.ntmps14
  go_wp2_with (go_at_call 40; go_loud (refine MN.out.mono ?_; rintro e w1 ⟨rfl, hw⟩; replace hw := hw.symm; subst hw))
  go_ret
  exact ⟨rfl, rfl⟩
set_option maxHeartbeats 2000000 in
theorem un_flags {w : World} {p : Value} (h : UN w p) (tx : Int) : Calls Tryz.prog 29 #[p, .int .i64 tx] w fun e w' => e = .returned (.tuple #[.agg #[.bool false, .bool false], .int .i64 2]) ∧ Below w.heap.size w w' := by
  obtain ⟨W, hW⟩ : ∃ W, w.alloc (.cells #[.bool false, .bool false] 79) = W := ⟨_, rfl⟩
  have hB : Below w.heap.size w W := by rw [← hW]; exact (Below.refl _ _).alloc (Nat.le_refl _) _
  have q0 : W.heap[w.heap.size]? = some (.cells #[.bool false, .bool false] 79 (0, 0)) := by rw [← hW]; exact heap_alloc_new _ _
  have z0 : W.cell? ⟨w.heap.size, 0, none⟩ = some (.bool false) := cell_of_row _ _ 0 _ _ _ q0
  have z1 : W.cell? ⟨w.heap.size, 1, none⟩ = some (.bool false) := cell_of_row _ _ 1 _ _ _ q0
  have f0 : W.frozen? ⟨w.heap.size, 0, none⟩ = false := frozen_of_row _ _ _ _ _ q0
  have f1 : W.frozen? ⟨w.heap.size, 1, none⟩ = false := frozen_of_row _ _ _ _ _ q0
  have HB := Lib.hid hB
  have HW := Lib.hid hW
  have CR := Lib.hid (un_ref (h.gw hB) tx)
  obtain ⟨V, hV⟩ : ∃ V, (W.setCell ⟨w.heap.size, 0, none⟩ (.bool false)).setCell ⟨w.heap.size, 1, none⟩ (.bool false) = V := ⟨_, rfl⟩
  have BV := Lib.hid (show Below w.heap.size w V by rw [← hV]; exact (HB.out.setCell (Nat.le_refl _) _).setCell (Nat.le_refl _) _)
  have r0 : V.heap[w.heap.size]? = some (.cells #[.bool false, .bool false] 79 (0, 0)) := by rw [← hV]; exact row2_set q0 _ _
  have v0 : V.cell? ⟨w.heap.size, 0, none⟩ = some (.bool false) := cell_of_row _ _ 0 _ _ _ r0
  have v1 : V.cell? ⟨w.heap.size, 1, none⟩ = some (.bool false) := cell_of_row _ _ 1 _ _ _ r0
  have HV := Lib.hid hV
  clear h hB hW q0 hV r0
  go_enter Tryz.func29, Tryz.ntmps29
  go_upto_region 1 with fail
  rw [HW.out]
  go_wp2_with (go_at_call 48; go_loud (refine CR.out.mono ?_; rintro e w1 ⟨rfl, hw⟩; replace hw := hw.symm; subst hw))
  rw [HV.out]
  refine bodyPost_ret (v := .tuple #[.agg #[.bool false, .bool false], .int .i64 2]) (by simp [results, Tryz.results29, go_sem, v0, v1]) rfl ⟨rfl, BV.out⟩
set_option maxHeartbeats 2000000 in
theorem un_track {w : World} {p : Value} (h : UN w p) : Calls Tryz.prog 27 #[p] w fun e w' => e = .returned (.agg #[.int .i64 0, .int .i64 0, .int .i64 0, .int .i64 0]) ∧ Below w.heap.size w w' := by
  obtain ⟨W, hW⟩ : ∃ W, w.alloc (.cells #[.int .i64 0, .int .i64 0, .int .i64 0, .int .i64 0] 73) = W := ⟨_, rfl⟩
  have hB : Below w.heap.size w W := by rw [← hW]; exact (Below.refl _ _).alloc (Nat.le_refl _) _
  have q0 : W.heap[w.heap.size]? = some (.cells #[.int .i64 0, .int .i64 0, .int .i64 0, .int .i64 0] 73 (0, 0)) := by rw [← hW]; exact heap_alloc_new _ _
  have z0 : W.cell? ⟨w.heap.size, 0, none⟩ = some (.int .i64 0) := cell_of_row _ _ 0 _ _ _ q0
  have z1 : W.cell? ⟨w.heap.size, 1, none⟩ = some (.int .i64 0) := cell_of_row _ _ 1 _ _ _ q0
  have z2 : W.cell? ⟨w.heap.size, 2, none⟩ = some (.int .i64 0) := cell_of_row _ _ 2 _ _ _ q0
  have z3 : W.cell? ⟨w.heap.size, 3, none⟩ = some (.int .i64 0) := cell_of_row _ _ 3 _ _ _ q0
  have f0 : W.frozen? ⟨w.heap.size, 0, none⟩ = false := frozen_of_row _ _ _ _ _ q0
  have f1 : W.frozen? ⟨w.heap.size, 1, none⟩ = false := frozen_of_row _ _ _ _ _ q0
  have f2 : W.frozen? ⟨w.heap.size, 2, none⟩ = false := frozen_of_row _ _ _ _ _ q0
  have f3 : W.frozen? ⟨w.heap.size, 3, none⟩ = false := frozen_of_row _ _ _ _ _ q0
  have HB := Lib.hid hB
  have HW := Lib.hid hW
  have CR := Lib.hid (h W hB)
  obtain ⟨V, hV⟩ : ∃ V, (((W.setCell ⟨w.heap.size, 0, none⟩ (.int .i64 0)).setCell ⟨w.heap.size, 1, none⟩ (.int .i64 0)).setCell ⟨w.heap.size, 2, none⟩ (.int .i64 0)).setCell ⟨w.heap.size, 3, none⟩ (.int .i64 0) = V := ⟨_, rfl⟩
  have BV := Lib.hid (show Below w.heap.size w V by rw [← hV]; exact (((HB.out.setCell (Nat.le_refl _) _).setCell (Nat.le_refl _) _).setCell (Nat.le_refl _) _).setCell (Nat.le_refl _) _)
  have r0 : V.heap[w.heap.size]? = some (.cells #[.int .i64 0, .int .i64 0, .int .i64 0, .int .i64 0] 73 (0, 0)) := by rw [← hV]; exact row4_set q0 _ _ _ _
  have v0 : V.cell? ⟨w.heap.size, 0, none⟩ = some (.int .i64 0) := cell_of_row _ _ 0 _ _ _ r0
  have v1 : V.cell? ⟨w.heap.size, 1, none⟩ = some (.int .i64 0) := cell_of_row _ _ 1 _ _ _ r0
  have v2 : V.cell? ⟨w.heap.size, 2, none⟩ = some (.int .i64 0) := cell_of_row _ _ 2 _ _ _ r0
  have v3 : V.cell? ⟨w.heap.size, 3, none⟩ = some (.int .i64 0) := cell_of_row _ _ 3 _ _ _ r0
  have HV := Lib.hid hV
  clear h hB hW q0 hV r0
  go_enter Tryz.func27, Tryz.ntmps27
  go_upto_region 1 with fail
  rw [HW.out]
  go_wp2_with (go_at_call 40; go_loud (refine CR.out.mono ?_; rintro e w1 ⟨rfl, hw⟩; replace hw := hw.symm; subst hw))
  rw [HV.out]
  refine bodyPost_ret (v := .agg #[.int .i64 0, .int .i64 0, .int .i64 0, .int .i64 0]) (by simp [results, Tryz.results27, go_sem, v0, v1, v2, v3]) rfl ⟨rfl, BV.out⟩
end Go.Proofs.YtknppiebncdjmaaGreat
