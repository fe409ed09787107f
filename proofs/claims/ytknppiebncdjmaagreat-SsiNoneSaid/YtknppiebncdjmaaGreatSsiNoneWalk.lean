/- The walk of SsiNone: a manager that no call made: nil, and the zero one. -/
import Derived.Test.YtknppiebncdjmaaGreatTxNone
import Derived.Test.YtknppiebncdjmaaGreatJBR
import Derived.Test.YtknppiebncdjmaaGreatJBS
namespace Go.Proofs.YtknppiebncdjmaaGreat
set_option maxRecDepth 100000
set_option maxRecDepth 100000
open Go.RowKit Go.Maps Go.ChangeMaps Go.MapKept

set_option maxHeartbeats 16000000 in
theorem walk_SsiNone (o : OpX) (w : World) (_ho : OpXIs o) :
    Calls Tryz.prog 10 #[.agg #[.int .i64 o.do_, .int .i64 o.tx, .string o.at_.1, .string o.at_.2, .string o.to_, .int .i64 o.last]] w fun e w' => e = .returned (.bool true) ∧ Below w.heap.size w w' := by
  clear _ho
  obtain ⟨do_, tx, ⟨tb, ky⟩, hi, last⟩ := o
  dsimp only
  have CB := Lib.hid (fun W => wbegun10 W)
  obtain ⟨W, hW⟩ : ∃ W, w.alloc (.cells #[.int .i64 do_, .int .i64 tx, .string tb, .string ky, .string hi, .int .i64 last] 44) = W := ⟨_, rfl⟩
  have HW := Lib.hid hW
  have HB := Lib.hid (show Below w.heap.size w W by rw [← hW]; exact (Below.refl _ _).alloc (Nat.le_refl _) _)
  have q0 : W.heap[w.heap.size]? = some (.cells #[.int .i64 do_, .int .i64 tx, .string tb, .string ky, .string hi, .int .i64 last] 44 (0, 0)) := by rw [← hW]; exact heap_alloc_new _ _
  have Q0 := Lib.hid q0
  clear hW q0
  go_enter Tryz.func10, Tryz.ntmps10
  go_upto_region 1 with fail
  rw [HW.out]
  go_upto_region 3 with (go_at_call 13; go_loud (refine (CB.out _).mono ?_; rintro e w2 ⟨rfl, b2⟩; have B2 := Lib.hid b2; clear b2))
  obtain ⟨W4, hW4⟩ : ∃ W4, (w2.alloc (.cells #[.int .i64 0, .int .i64 0, .int .i64 0, .int .i64 0, .int .i64 0, .int .i64 0, .map none, .map none, .map none, .pointer none, .pointer none] 92)).alloc (.cells #[.pointer none, .pointer (some ⟨w2.heap.size, 0, none⟩)] 25) = W4 := ⟨_, rfl⟩
  have HW4 := Lib.hid hW4
  have b4 : Below w2.heap.size w2 W4 := by rw [← hW4]; exact ((Below.refl _ _).alloc (Nat.le_refl _) _).alloc (by simp) _
  have hrow : W4.heap[w2.heap.size + 1]? = some (.cells #[.pointer none, .pointer (some ⟨w2.heap.size, 0, none⟩)] 25 (0, 0)) := by
    rw [← hW4, show w2.heap.size + 1 = (w2.alloc (.cells #[.int .i64 0, .int .i64 0, .int .i64 0, .int .i64 0, .int .i64 0, .int .i64 0, .map none, .map none, .map none, .pointer none, .pointer none] 92)).heap.size by simp]
    exact heap_alloc_new _ _
  have cz : W4.cell? ⟨w2.heap.size, 0, none⟩ = some (.int .i64 0) := by
    rw [← hW4]
    refine keep_below ?_ ((Below.refl _ _).alloc (Nat.le_refl _) _)
    rw [cell_of_row _ _ _ _ _ _ (heap_alloc_new w2 _)]; rfl
  have e0 : W4.cell? ⟨w2.heap.size + 1, 0, none⟩ = some (.pointer none) := by rw [cell_of_row _ _ _ _ _ _ hrow]; rfl
  have e1 : W4.cell? ⟨w2.heap.size + 1, 1, none⟩ = some (.pointer (some ⟨w2.heap.size, 0, none⟩)) := by rw [cell_of_row _ _ _ _ _ _ hrow]; rfl
  have E1 := Lib.hid e1
  have g4 := below_next B2.out b4
  have x4 : W4.heap[w.heap.size]? = some (.cells #[.int .i64 do_, .int .i64 tx, .string tb, .string ky, .string hi, .int .i64 last] 44 (0, 0)) := (g4.block _ (Array.getElem?_eq_some_iff.1 Q0.out).1).trans Q0.out
  have BB := Lib.hid (below_next HB.out g4)
  have U0 := Lib.hid (un_nil W4)
  have U1 := Lib.hid (un_zero cz)
  have p1 : W4.cell? ⟨w.heap.size, 1, none⟩ = some (.int .i64 tx) := cell_of_row _ _ 1 _ _ _ x4
  have p2 : W4.cell? ⟨w.heap.size, 2, none⟩ = some (.string tb) := cell_of_row _ _ 2 _ _ _ x4
  have p3 : W4.cell? ⟨w.heap.size, 3, none⟩ = some (.string ky) := cell_of_row _ _ 3 _ _ _ x4
  have p4 : W4.cell? ⟨w.heap.size, 4, none⟩ = some (.string hi) := cell_of_row _ _ 4 _ _ _ x4
  have p5 : W4.cell? ⟨w.heap.size, 5, none⟩ = some (.int .i64 last) := cell_of_row _ _ 5 _ _ _ x4
  clear hW4 b4 hrow cz e1 g4 x4
  go_upto_region 4 with fail
  rw [HW4.out]
  refine wp_loop_rounds 3 ?_
  rw [rounds_succ]
  have HC := Lib.hid (Below.refl W4.heap.size W4)
  have U := U0
  go_upto_region 10 with (first
    | (go_at_call 15; go_loud (refine (un_begin (U.out.gw HC.out)).mono ?_; rintro e w9 ⟨rfl, hw⟩; replace hw := hw.symm; subst hw))
    | (go_at_call 32; go_loud (refine (un_commit (U.out.gw HC.out) tx).mono ?_; rintro e w9 ⟨rfl, hw⟩; replace hw := hw.symm; subst hw))
    | (go_at_call 30; go_loud (refine (un_snap (U.out.gw HC.out) tx).mono ?_; rintro e w9 ⟨rfl, hw⟩; replace hw := hw.symm; subst hw))
    | (go_at_call 29; go_loud (refine (un_flags (U.out.gw HC.out) tx).mono ?_; rintro e w9 ⟨rfl, b9⟩; replace HC := Lib.hid (below_next HC.out b9); replace p1 := keep_below p1 b9; replace p2 := keep_below p2 b9; replace p3 := keep_below p3 b9; replace p4 := keep_below p4 b9; replace p5 := keep_below p5 b9; obtain ⟨V9, hV9⟩ : ∃ V, w9.alloc (.cells #[.bool false, .bool false] 79) = V := ⟨_, rfl⟩; have r9 := heap_alloc_new w9 (.cells #[.bool false, .bool false] 79); rw [hV9] at r9; have d9 : Below w9.heap.size w9 V9 := (by rw [← hV9]; exact (Below.refl _ _).alloc (Nat.le_refl _) _); have v0 := cell_of_row _ _ 0 _ _ _ r9; have v1 := cell_of_row _ _ 1 _ _ _ r9; have HV9 := Lib.hid hV9; have D9 := Lib.hid d9; clear hV9 r9 d9; clear b9)))
  rw [HV9.out]
  replace HC := Lib.hid (below_next HC.out D9.out)
  replace p1 := keep_below p1 D9.out
  replace p2 := keep_below p2 D9.out
  replace p3 := keep_below p3 D9.out
  replace p4 := keep_below p4 D9.out
  replace p5 := keep_below p5 D9.out
  clear HV9 D9
  go_wp2_with (first
    | (go_at_call 31; go_loud (refine (un_read (U.out.gw HC.out) tx tb ky).mono ?_; rintro e w9 ⟨rfl, b9⟩; replace HC := Lib.hid (below_next HC.out b9); replace p1 := keep_below p1 b9; replace p2 := keep_below p2 b9; replace p3 := keep_below p3 b9; replace p4 := keep_below p4 b9; replace p5 := keep_below p5 b9; clear b9))
    | (go_at_call 33; go_loud (refine (un_scan (U.out.gw HC.out) tx tb ky hi).mono ?_; rintro e w9 ⟨rfl, hw⟩; replace hw := hw.symm; subst hw))
    | (go_at_call 16; go_loud (refine (un_write (U.out.gw HC.out) tx tb ky last).mono ?_; rintro e w9 ⟨rfl, b9⟩; replace HC := Lib.hid (below_next HC.out b9); replace p1 := keep_below p1 b9; replace p2 := keep_below p2 b9; replace p3 := keep_below p3 b9; replace p4 := keep_below p4 b9; replace p5 := keep_below p5 b9; clear b9))
    | (go_at_call 17; go_loud (refine (un_abort (U.out.gw HC.out) tx).mono ?_; rintro e w9 ⟨rfl, hw⟩; replace hw := hw.symm; subst hw))
    | (go_at_call 28; go_loud (refine (un_active (U.out.gw HC.out)).mono ?_; rintro e w9 ⟨rfl, hw⟩; replace hw := hw.symm; subst hw))
    | (go_at_call 34; go_loud (refine (un_now (U.out.gw HC.out)).mono ?_; rintro e w9 ⟨rfl, hw⟩; replace hw := hw.symm; subst hw))
    | (go_at_call 35; go_loud (refine (un_oldest (U.out.gw HC.out)).mono ?_; rintro e w9 ⟨rfl, hw⟩; replace hw := hw.symm; subst hw))
    | (go_at_call 27; go_loud (refine (un_track (U.out.gw HC.out)).mono ?_; rintro e w9 ⟨rfl, b9⟩; replace HC := Lib.hid (below_next HC.out b9); replace p1 := keep_below p1 b9; replace p2 := keep_below p2 b9; replace p3 := keep_below p3 b9; replace p4 := keep_below p4 b9; replace p5 := keep_below p5 b9; clear b9))
    | (go_at_call 14; go_loud (refine (un_clone (U.out.gw HC.out)).mono ?_; rintro e w9 ⟨rfl, hw⟩; replace hw := hw.symm; subst hw)))
  have e1 := keep_below E1.out HC.out
  clear e0
  rw [rounds_succ]
  clear U
  have U := U1
  go_upto_region 10 with (first
    | (go_at_call 15; go_loud (refine (un_begin (U.out.gw HC.out)).mono ?_; rintro e w9 ⟨rfl, hw⟩; replace hw := hw.symm; subst hw))
    | (go_at_call 32; go_loud (refine (un_commit (U.out.gw HC.out) tx).mono ?_; rintro e w9 ⟨rfl, hw⟩; replace hw := hw.symm; subst hw))
    | (go_at_call 30; go_loud (refine (un_snap (U.out.gw HC.out) tx).mono ?_; rintro e w9 ⟨rfl, hw⟩; replace hw := hw.symm; subst hw))
    | (go_at_call 29; go_loud (refine (un_flags (U.out.gw HC.out) tx).mono ?_; rintro e w9 ⟨rfl, b9⟩; replace HC := Lib.hid (below_next HC.out b9); replace p1 := keep_below p1 b9; replace p2 := keep_below p2 b9; replace p3 := keep_below p3 b9; replace p4 := keep_below p4 b9; replace p5 := keep_below p5 b9; obtain ⟨V9, hV9⟩ : ∃ V, w9.alloc (.cells #[.bool false, .bool false] 79) = V := ⟨_, rfl⟩; have r9 := heap_alloc_new w9 (.cells #[.bool false, .bool false] 79); rw [hV9] at r9; have d9 : Below w9.heap.size w9 V9 := (by rw [← hV9]; exact (Below.refl _ _).alloc (Nat.le_refl _) _); have v0 := cell_of_row _ _ 0 _ _ _ r9; have v1 := cell_of_row _ _ 1 _ _ _ r9; have HV9 := Lib.hid hV9; have D9 := Lib.hid d9; clear hV9 r9 d9; clear b9)))
  rw [HV9.out]
  replace HC := Lib.hid (below_next HC.out D9.out)
  replace p1 := keep_below p1 D9.out
  replace p2 := keep_below p2 D9.out
  replace p3 := keep_below p3 D9.out
  replace p4 := keep_below p4 D9.out
  replace p5 := keep_below p5 D9.out
  clear HV9 D9
  go_wp2_with (first
    | (go_at_call 31; go_loud (refine (un_read (U.out.gw HC.out) tx tb ky).mono ?_; rintro e w9 ⟨rfl, b9⟩; replace HC := Lib.hid (below_next HC.out b9); replace p1 := keep_below p1 b9; replace p2 := keep_below p2 b9; replace p3 := keep_below p3 b9; replace p4 := keep_below p4 b9; replace p5 := keep_below p5 b9; clear b9))
    | (go_at_call 33; go_loud (refine (un_scan (U.out.gw HC.out) tx tb ky hi).mono ?_; rintro e w9 ⟨rfl, hw⟩; replace hw := hw.symm; subst hw))
    | (go_at_call 16; go_loud (refine (un_write (U.out.gw HC.out) tx tb ky last).mono ?_; rintro e w9 ⟨rfl, b9⟩; replace HC := Lib.hid (below_next HC.out b9); replace p1 := keep_below p1 b9; replace p2 := keep_below p2 b9; replace p3 := keep_below p3 b9; replace p4 := keep_below p4 b9; replace p5 := keep_below p5 b9; clear b9))
    | (go_at_call 17; go_loud (refine (un_abort (U.out.gw HC.out) tx).mono ?_; rintro e w9 ⟨rfl, hw⟩; replace hw := hw.symm; subst hw))
    | (go_at_call 28; go_loud (refine (un_active (U.out.gw HC.out)).mono ?_; rintro e w9 ⟨rfl, hw⟩; replace hw := hw.symm; subst hw))
    | (go_at_call 34; go_loud (refine (un_now (U.out.gw HC.out)).mono ?_; rintro e w9 ⟨rfl, hw⟩; replace hw := hw.symm; subst hw))
    | (go_at_call 35; go_loud (refine (un_oldest (U.out.gw HC.out)).mono ?_; rintro e w9 ⟨rfl, hw⟩; replace hw := hw.symm; subst hw))
    | (go_at_call 27; go_loud (refine (un_track (U.out.gw HC.out)).mono ?_; rintro e w9 ⟨rfl, b9⟩; replace HC := Lib.hid (below_next HC.out b9); replace p1 := keep_below p1 b9; replace p2 := keep_below p2 b9; replace p3 := keep_below p3 b9; replace p4 := keep_below p4 b9; replace p5 := keep_below p5 b9; clear b9))
    | (go_at_call 14; go_loud (refine (un_clone (U.out.gw HC.out)).mono ?_; rintro e w9 ⟨rfl, hw⟩; replace hw := hw.symm; subst hw)))
  rw [rounds_succ]
  go_wp2
  go_ret
  exact ⟨rfl, below_next BB.out HC.out⟩
end Go.Proofs.YtknppiebncdjmaaGreat
