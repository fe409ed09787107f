/- The walk of SireadNone: notes that no call made: nil, and the zero ones. -/
import Derived.Test.YtcpifanhmkblmaaSpNone
import Derived.Test.YtcpifanhmkblmaaJAR
import Derived.Test.YtcpifanhmkblmaaSiOpen
namespace Go.Proofs.Ytcpifanhmkblmaa
set_option maxRecDepth 100000
set_option maxRecDepth 100000
open Go.RowKit Go.Maps Go.ChangeMaps Go.MapKept

set_option maxHeartbeats 16000000 in
theorem walk_SireadNone (o : OpS) (w : World) (_ho : OpSIs o) :
    Calls Try.prog 8 #[.agg #[.int .i64 o.kind, .int .i64 o.tx, .string o.x.tb, .int .i64 o.x.kd, .string o.x.lo, .string o.x.hi, .string o.key]] w fun e w' => e = .returned (.bool true) ∧ Below w.heap.size w w' := by
  clear _ho
  obtain ⟨kind, tx, ⟨tb, kd, lo, hi⟩, key⟩ := o
  dsimp only
  have CL := Lib.hid (fun W => wlive9 api9 W)
  obtain ⟨W, hW⟩ : ∃ W, w.alloc (.cells #[.int .i64 kind, .int .i64 tx, .string tb, .int .i64 kd, .string lo, .string hi, .string key] 33) = W := ⟨_, rfl⟩
  have HW := Lib.hid hW
  have HB := Lib.hid (show Below w.heap.size w W by rw [← hW]; exact (Below.refl _ _).alloc (Nat.le_refl _) _)
  have q0 : W.heap[w.heap.size]? = some (.cells #[.int .i64 kind, .int .i64 tx, .string tb, .int .i64 kd, .string lo, .string hi, .string key] 33 (0, 0)) := by rw [← hW]; exact heap_alloc_new _ _
  have Q0 := Lib.hid q0
  clear hW q0
  obtain ⟨W4, hW4⟩ : ∃ W4, (W.alloc (.cells #[.int .i64 0, .int .i64 0, .map none] 57)).alloc (.cells #[.pointer none, .pointer (some ⟨W.heap.size, 0, none⟩)] 23) = W4 := ⟨_, rfl⟩
  have HW4 := Lib.hid hW4
  have b4 : Below W.heap.size W W4 := by rw [← hW4]; exact ((Below.refl _ _).alloc (Nat.le_refl _) _).alloc (by simp) _
  have hrow : W4.heap[W.heap.size + 1]? = some (.cells #[.pointer none, .pointer (some ⟨W.heap.size, 0, none⟩)] 23 (0, 0)) := by
    rw [← hW4, show W.heap.size + 1 = (W.alloc (.cells #[.int .i64 0, .int .i64 0, .map none] 57)).heap.size by simp]
    exact heap_alloc_new _ _
  have cz : W4.cell? ⟨W.heap.size, 0, none⟩ = some (.int .i64 0) := by
    rw [← hW4]
    refine keep_below ?_ ((Below.refl _ _).alloc (Nat.le_refl _) _)
    rw [cell_of_row _ _ _ _ _ _ (heap_alloc_new W _)]; rfl
  have e0 : W4.cell? ⟨W.heap.size + 1, 0, none⟩ = some (.pointer none) := by rw [cell_of_row _ _ _ _ _ _ hrow]; rfl
  have e1 : W4.cell? ⟨W.heap.size + 1, 1, none⟩ = some (.pointer (some ⟨W.heap.size, 0, none⟩)) := by rw [cell_of_row _ _ _ _ _ _ hrow]; rfl
  have E1 := Lib.hid e1
  have x4 : W4.heap[w.heap.size]? = some (.cells #[.int .i64 kind, .int .i64 tx, .string tb, .int .i64 kd, .string lo, .string hi, .string key] 33 (0, 0)) := (b4.block _ (Array.getElem?_eq_some_iff.1 Q0.out).1).trans Q0.out
  have BB := Lib.hid (below_next HB.out b4)
  have U0 := Lib.hid (um_nil W4)
  have U1 := Lib.hid (um_zero cz)
  have p1 : W4.cell? ⟨w.heap.size, 1, none⟩ = some (.int .i64 tx) := cell_of_row _ _ 1 _ _ _ x4
  have p2 : W4.cell? ⟨w.heap.size, 2, none⟩ = some (.string tb) := cell_of_row _ _ 2 _ _ _ x4
  have p3 : W4.cell? ⟨w.heap.size, 3, none⟩ = some (.int .i64 kd) := cell_of_row _ _ 3 _ _ _ x4
  have p4 : W4.cell? ⟨w.heap.size, 4, none⟩ = some (.string lo) := cell_of_row _ _ 4 _ _ _ x4
  have p5 : W4.cell? ⟨w.heap.size, 5, none⟩ = some (.string hi) := cell_of_row _ _ 5 _ _ _ x4
  have p6 : W4.cell? ⟨w.heap.size, 6, none⟩ = some (.string key) := cell_of_row _ _ 6 _ _ _ x4
  clear hW4 b4 hrow cz e1 x4
  have CN := Lib.hid (fun (W : World) (p : Value) (U : UM W p) => um_note U tx ⟨tb, kd, lo, hi⟩)
  unfold rdV at CN
  dsimp only at CN
  go_enter Try.func8, Try.ntmps8
  go_upto_region 1 with fail
  rw [HW.out]
  go_upto_region 2 with fail
  rw [HW4.out]
  refine wp_loop_rounds 3 ?_
  rw [rounds_succ]
  have HC := Lib.hid (Below.refl W4.heap.size W4)
  have U := U0
  go_wp2_with (first
    | (go_at_call 12; go_loud (refine (CN.out _ _ (U.out.gw HC.out)).mono ?_; rintro e w9 ⟨rfl, b9⟩; replace HC := Lib.hid (below_next HC.out b9); replace p1 := keep_below p1 b9; replace p2 := keep_below p2 b9; replace p3 := keep_below p3 b9; replace p4 := keep_below p4 b9; replace p5 := keep_below p5 b9; replace p6 := keep_below p6 b9; clear b9))
    | (go_at_call 14; go_loud (refine (um_drop (U.out.gw HC.out) tx).mono ?_; rintro e w9 ⟨rfl, hw⟩; replace hw := hw.symm; subst hw))
    | (go_at_call 21; go_loud (refine (um_readers (U.out.gw HC.out) tb key).mono ?_; rintro e w9 ⟨rfl, b9⟩; replace HC := Lib.hid (below_next HC.out b9); replace p1 := keep_below p1 b9; replace p2 := keep_below p2 b9; replace p3 := keep_below p3 b9; replace p4 := keep_below p4 b9; replace p5 := keep_below p5 b9; replace p6 := keep_below p6 b9; clear b9))
    | (go_at_call 27; go_loud (refine (um_of (U.out.gw HC.out) tx).mono ?_; rintro e w9 ⟨rfl, b9⟩; replace HC := Lib.hid (below_next HC.out b9); replace p1 := keep_below p1 b9; replace p2 := keep_below p2 b9; replace p3 := keep_below p3 b9; replace p4 := keep_below p4 b9; replace p5 := keep_below p5 b9; replace p6 := keep_below p6 b9; clear b9))
    | (go_at_call 26; go_loud (refine (um_txns (U.out.gw HC.out)).mono ?_; rintro e w9 ⟨rfl, b9⟩; replace HC := Lib.hid (below_next HC.out b9); replace p1 := keep_below p1 b9; replace p2 := keep_below p2 b9; replace p3 := keep_below p3 b9; replace p4 := keep_below p4 b9; replace p5 := keep_below p5 b9; replace p6 := keep_below p6 b9; clear b9))
    | (go_at_call 23; go_loud (refine (um_len (U.out.gw HC.out)).mono ?_; rintro e w9 ⟨rfl, hw⟩; replace hw := hw.symm; subst hw)))
  have e1 := keep_below E1.out HC.out
  clear e0
  rw [rounds_succ]
  clear U
  have U := U1
  go_wp2_with (first
    | (go_at_call 12; go_loud (refine (CN.out _ _ (U.out.gw HC.out)).mono ?_; rintro e w9 ⟨rfl, b9⟩; replace HC := Lib.hid (below_next HC.out b9); replace p1 := keep_below p1 b9; replace p2 := keep_below p2 b9; replace p3 := keep_below p3 b9; replace p4 := keep_below p4 b9; replace p5 := keep_below p5 b9; replace p6 := keep_below p6 b9; clear b9))
    | (go_at_call 14; go_loud (refine (um_drop (U.out.gw HC.out) tx).mono ?_; rintro e w9 ⟨rfl, hw⟩; replace hw := hw.symm; subst hw))
    | (go_at_call 21; go_loud (refine (um_readers (U.out.gw HC.out) tb key).mono ?_; rintro e w9 ⟨rfl, b9⟩; replace HC := Lib.hid (below_next HC.out b9); replace p1 := keep_below p1 b9; replace p2 := keep_below p2 b9; replace p3 := keep_below p3 b9; replace p4 := keep_below p4 b9; replace p5 := keep_below p5 b9; replace p6 := keep_below p6 b9; clear b9))
    | (go_at_call 27; go_loud (refine (um_of (U.out.gw HC.out) tx).mono ?_; rintro e w9 ⟨rfl, b9⟩; replace HC := Lib.hid (below_next HC.out b9); replace p1 := keep_below p1 b9; replace p2 := keep_below p2 b9; replace p3 := keep_below p3 b9; replace p4 := keep_below p4 b9; replace p5 := keep_below p5 b9; replace p6 := keep_below p6 b9; clear b9))
    | (go_at_call 26; go_loud (refine (um_txns (U.out.gw HC.out)).mono ?_; rintro e w9 ⟨rfl, b9⟩; replace HC := Lib.hid (below_next HC.out b9); replace p1 := keep_below p1 b9; replace p2 := keep_below p2 b9; replace p3 := keep_below p3 b9; replace p4 := keep_below p4 b9; replace p5 := keep_below p5 b9; replace p6 := keep_below p6 b9; clear b9))
    | (go_at_call 23; go_loud (refine (um_len (U.out.gw HC.out)).mono ?_; rintro e w9 ⟨rfl, hw⟩; replace hw := hw.symm; subst hw)))
  rw [rounds_succ]
  go_wp2_with (go_at_call 11; go_loud (refine (CL.out _).mono ?_; rintro e w9 ⟨rfl, b9⟩; replace HC := Lib.hid (below_next HC.out b9); clear b9))
  go_ret
  exact ⟨rfl, below_next BB.out HC.out⟩
end Go.Proofs.Ytcpifanhmkblmaa
