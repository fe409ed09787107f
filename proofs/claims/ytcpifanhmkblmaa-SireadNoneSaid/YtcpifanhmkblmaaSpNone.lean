/- Layer 9: notes that no call made: what each call answers. -/
import Derived.Test.YtcpifanhmkblmaaJBM
namespace Go.Proofs.Ytcpifanhmkblmaa
set_option maxRecDepth 100000
set_option maxRecDepth 100000
open Go.RowKit Go.Maps Go.ChangeMaps Go.MapKept

/-- No call made them. -/
def UM (w0 : World) (p : Value) : Prop := ∀ W, Below w0.heap.size w0 W → Calls Try.prog 32 #[p] W fun e w' => e = .returned (.bool false) ∧ w' = W
theorem UM.gw {w w' : World} {p : Value} (h : UM w p) (g : Below w.heap.size w w') : UM w' p := fun W hW => h W (below_next g hW)
theorem um_nil (w : World) : UM w (.pointer none) := fun W _ => by
  go_enter Try.func32, Try.ntmps32
  go_wp2
  go_ret
  exact ⟨rfl, rfl⟩
theorem um_zero {w : World} {b : Nat} (c : w.cell? ⟨b, 0, none⟩ = some (.int .i64 0)) : UM w (.pointer (some ⟨b, 0, none⟩)) := fun W hW => by
  have c0 := keep_below c hW
  clear c hW
  go_enter Try.func32, Try.ntmps32
  go_wp2
  go_ret
  exact ⟨by simp, rfl⟩
theorem um_all {w : World} {p : Value} (h : UM w p) : Calls Try.prog 48 #[p] w fun e w' => e = .returned (.map none) ∧ w' = w := by
  have MN := Lib.hid (h w (Below.refl _ _))
  clear h
  go_enter Try.func48, Try.ntmps48
  go_wp2_with (go_at_call 32; go_loud (refine MN.out.mono ?_; rintro e w1 ⟨rfl, hw⟩; replace hw := hw.symm; subst hw))
  go_ret
  exact ⟨rfl, rfl⟩
theorem um_len {w : World} {p : Value} (h : UM w p) : Calls Try.prog 23 #[p] w fun e w' => e = .returned (.int .i64 0) ∧ w' = w := by
  have MN := Lib.hid (h w (Below.refl _ _))
  clear h
  go_enter Try.func23, Try.ntmps23
  go_wp2_with (go_at_call 32; go_loud (refine MN.out.mono ?_; rintro e w1 ⟨rfl, hw⟩; replace hw := hw.symm; subst hw))
  go_ret
  exact ⟨rfl, rfl⟩
theorem um_drop {w : World} {p : Value} (h : UM w p) (t : Int) : Calls Try.prog 14 #[p, .int .i64 t] w fun e w' => e = .returned (.int .i64 2) ∧ w' = w := by
  have MN := Lib.hid (h w (Below.refl _ _))
  clear h
  go_enter Try.func14, Try.ntmps14
  go_wp2_with (go_at_call 32; go_loud (refine MN.out.mono ?_; rintro e w1 ⟨rfl, hw⟩; replace hw := hw.symm; subst hw))
  go_ret
  exact ⟨rfl, rfl⟩
set_option maxHeartbeats 2000000 in
theorem um_note {w : World} {p : Value} (h : UM w p) (t : Int) (x : Rd) : Calls Try.prog 12 #[p, .int .i64 t, rdV x] w fun e w' => e = .returned (.int .i64 2) ∧ Below w.heap.size w w' := by
  have HB := Lib.hid (show Below w.heap.size w (w.alloc (.cells #[.string x.tb, .int .i64 x.kd, .string x.lo, .string x.hi] 31)) from below_alloc9 _ _)
  have MN := Lib.hid (h _ HB.out)
  clear h
  unfold rdV
  go_enter Try.func12, Try.ntmps12
  go_wp2_with (go_at_call 32; go_loud (refine MN.out.mono ?_; rintro e w1 ⟨rfl, hw⟩; replace hw := hw.symm; subst hw))
  go_ret
  exact ⟨rfl, HB.out⟩
theorem nil_sortN9 (w : World) : Calls Try.prog 49 #[.slice none 0 0] w fun e w' => e = .returned (.tuple #[]) ∧ Below w.heap.size w w' :=
  (wsortN (zs := []) (SO.nil seN w.heap.size w) (by simp)).mono fun _ _ ⟨e, _, b⟩ => ⟨e, b⟩
theorem nil_sortR9 (w : World) : Calls Try.prog 51 #[.slice none 0 0, .func (.func 52) #[] #[]] w fun e w' => e = .returned (.tuple #[]) ∧ Below w.heap.size w w' :=
  (wsortR (ls := []) (SO.nil seR w.heap.size w) (by simp) (by simp)).mono fun _ _ h => by
    obtain ⟨e, h⟩ := h
    exact ⟨e, by grind⟩
set_option maxHeartbeats 4000000 in
theorem um_txns {w : World} {p : Value} (h : UM w p) : Calls Try.prog 26 #[p] w fun e w' => e = .returned (.slice none 0 0) ∧ Below w.heap.size w w' := by
  have CA := Lib.hid (um_all h)
  have hrg := run_range_nilMap (P := Try.prog) w 55 _ _ Try.underlying55
  have hnx : ∀ ty, (Instr.next (.pointer (some ⟨w.heap.size, 0, none⟩)) false ty).run Try.prog (w.alloc (.mapIter none 0 #[] 0)) = _ := fun ty => run_next_nilMap _ ty 0 0 #[]
  have HB := Lib.hid (show Below w.heap.size w (w.alloc (.mapIter none 0 #[] 0)) from below_alloc9 _ _)
  clear h
  go_enter Try.func26, Try.ntmps26
  go_upto_region 3 with (go_at_call 48; go_loud (refine CA.out.mono ?_; rintro e w1 ⟨rfl, hw⟩; replace hw := hw.symm; subst hw))
  refine wp_loop_rounds 1 ?_
  rw [rounds_succ]
  go_wp2_with (go_at_call 49; go_loud (refine (nil_sortN9 _).mono ?_; rintro e w5 ⟨rfl, b5⟩; have B5 := Lib.hid (below_next HB.out b5); clear b5))
  go_ret
  exact ⟨rfl, B5.out⟩
set_option maxHeartbeats 4000000 in
theorem um_readers {w : World} {p : Value} (h : UM w p) (tb key : ByteArray) : Calls Try.prog 21 #[p, .string tb, .string key] w fun e w' => e = .returned (.slice none 0 0) ∧ Below w.heap.size w w' := by
  obtain ⟨W, hW⟩ : ∃ W, w.alloc (.cells #[.string tb, .int .i64 1, .string key, .string ⟨#[]⟩] 31) = W := ⟨_, rfl⟩
  have HW := Lib.hid hW
  have gW : Below w.heap.size w W := by rw [← hW]; exact below_alloc9 _ _
  have CA := Lib.hid (um_all (h.gw gW))
  have hrg := run_range_nilMap (P := Try.prog) W 55 _ _ Try.underlying55
  have hnx : ∀ ty, (Instr.next (.pointer (some ⟨W.heap.size, 0, none⟩)) false ty).run Try.prog (W.alloc (.mapIter none 0 #[] 0)) = _ := fun ty => run_next_nilMap _ ty 0 0 #[]
  have HB := Lib.hid (show Below w.heap.size w (W.alloc (.mapIter none 0 #[] 0)) from below_next gW (below_alloc9 _ _))
  clear h gW hW
  go_enter Try.func21, Try.ntmps21
  go_upto_region 2 with fail
  rw [HW.out]
  go_upto_region 4 with (go_at_call 48; go_loud (refine CA.out.mono ?_; rintro e w1 ⟨rfl, hw⟩; replace hw := hw.symm; subst hw))
  refine wp_loop_rounds 1 ?_
  rw [rounds_succ]
  go_wp2_with (go_at_call 49; go_loud (refine (nil_sortN9 _).mono ?_; rintro e w5 ⟨rfl, b5⟩; have B5 := Lib.hid (below_next HB.out b5); clear b5))
  go_ret
  exact ⟨rfl, B5.out⟩
theorem run_look_none (w : World) (t : Int) : (Instr.lookup 55 (.map none) (.int .i64 t) false).run Try.prog w = .ok (.map none) w := by
  kernel_rfl
set_option maxHeartbeats 4000000 in
theorem um_of {w : World} {p : Value} (h : UM w p) (t : Int) : Calls Try.prog 27 #[p, .int .i64 t] w fun e w' => e = .returned (.slice none 0 0) ∧ Below w.heap.size w w' := by
  have CA := Lib.hid (um_all h)
  have hlk := fun W => run_look_none W t
  have hrg := run_range_nilMap (P := Try.prog) w 68 _ _ Try.underlying68
  have hnx : ∀ ty, (Instr.next (.pointer (some ⟨w.heap.size, 0, none⟩)) false ty).run Try.prog (w.alloc (.mapIter none 0 #[] 0)) = _ := fun ty => run_next_nilMap _ ty 0 0 #[]
  have HB := Lib.hid (show Below w.heap.size w (w.alloc (.mapIter none 0 #[] 0)) from below_alloc9 _ _)
  clear h
  go_enter Try.func27, Try.ntmps27
  go_upto_region 3 with (go_at_call 48; go_loud (refine CA.out.mono ?_; rintro e w1 ⟨rfl, hw⟩; replace hw := hw.symm; subst hw))
  refine wp_loop_rounds 1 ?_
  rw [rounds_succ]
  go_wp2_with (go_at_call 51; go_loud (refine (nil_sortR9 _).mono ?_; rintro e w5 ⟨rfl, b5⟩; have B5 := Lib.hid (below_next HB.out b5); clear b5))
  go_ret
  exact ⟨rfl, B5.out⟩
end Go.Proofs.Ytcpifanhmkblmaa
