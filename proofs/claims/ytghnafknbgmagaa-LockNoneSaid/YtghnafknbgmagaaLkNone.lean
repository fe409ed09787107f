/- Layer 8: a manager that no call made: what each call answers. -/
import Derived.Test.YtghnafknbgmagaaLkMan5
namespace Go.Proofs.Ytghnafknbgmagaa
set_option maxRecDepth 100000
set_option maxRecDepth 100000
open Go.RowKit Go.Maps Go.ChangeMaps Go.MapKept

/-- No call made it. -/
def UM (w0 : World) (p : Value) : Prop := ∀ W, Below w0.heap.size w0 W → Calls Try.prog 23 #[p] W fun e w' => e = .returned (.bool false) ∧ w' = W
theorem UM.gw {w w' : World} {p : Value} (h : UM w p) (g : Below w.heap.size w w') : UM w' p := fun W hW => h W (below_next g hW)
theorem um_nil (w : World) : UM w (.pointer none) := fun W _ => by
  go_enter Try.func23, Try.ntmps23
  go_wp2
  go_ret
  exact ⟨rfl, rfl⟩
theorem um_zero {w : World} {b : Nat} (c : w.cell? ⟨b, 0, none⟩ = some (.int .i64 0)) : UM w (.pointer (some ⟨b, 0, none⟩)) := fun W hW => by
  have c0 := keep_below c hW
  clear c hW
  go_enter Try.func23, Try.ntmps23
  go_wp2
  go_ret
  exact ⟨by simp, rfl⟩
theorem um_all {w : World} {p : Value} (h : UM w p) : Calls Try.prog 26 #[p] w fun e w' => e = .returned (.map none) ∧ w' = w := by
  have MN := Lib.hid (h w (Below.refl _ _))
  clear h
  go_enter Try.func26, Try.ntmps26
  go_wp2_with (go_at_call 23; go_loud (refine MN.out.mono ?_; rintro e w1 ⟨rfl, hw⟩; replace hw := hw.symm; subst hw))
  go_ret
  exact ⟨rfl, rfl⟩
theorem um_len {w : World} {p : Value} (h : UM w p) : Calls Try.prog 15 #[p] w fun e w' => e = .returned (.int .i64 0) ∧ w' = w := by
  have MN := Lib.hid (um_all h)
  clear h
  go_enter Try.func15, Try.ntmps15
  go_wp2_with (go_at_call 26; go_loud (refine MN.out.mono ?_; rintro e w1 ⟨rfl, hw⟩; replace hw := hw.symm; subst hw))
  go_ret
  exact ⟨rfl, rfl⟩
theorem um_clone {w : World} {p : Value} (h : UM w p) : Calls Try.prog 11 #[p] w fun e w' => e = .returned (.pointer none) ∧ w' = w := by
  have MN := Lib.hid (h w (Below.refl _ _))
  clear h
  go_enter Try.func11, Try.ntmps11
  go_wp2_with (go_at_call 23; go_loud (refine MN.out.mono ?_; rintro e w1 ⟨rfl, hw⟩; replace hw := hw.symm; subst hw))
  go_ret
  exact ⟨rfl, rfl⟩
theorem run_look_nil (ty k : TypeId) (w : World) (t : ByteArray) (ky : ByteArray) : (Instr.lookup mapT (.map none) (.agg #[.string t, .string ky]) true).run Try.prog w = .ok (.tuple #[.int .i64 0, .bool false]) w := by
  kernel_rfl
set_option maxHeartbeats 2000000 in
theorem um_holder {w : World} {p : Value} (h : UM w p) (l : Lk) : Calls Try.prog 16 #[p, lkV l] w fun e w' => e = .returned (.tuple #[.int .i64 0, .bool false]) ∧ Below w.heap.size w w' := by
  obtain ⟨W, hW⟩ : ∃ W, w.alloc (.cells #[.string l.1, .string l.2] 34) = W := ⟨_, rfl⟩
  have HB := Lib.hid (show Below w.heap.size w W by rw [← hW]; exact (Below.refl _ _).alloc (Nat.le_refl _) _)
  have q0 : W.heap[w.heap.size]? = some (.cells #[.string l.1, .string l.2] 34 (0, 0)) := by rw [← hW]; exact heap_alloc_new _ _
  have q1 : W.cell? ⟨w.heap.size, 0, none⟩ = some (.string l.1) := cell_of_row _ _ 0 _ _ _ q0
  have q2 : W.cell? ⟨w.heap.size, 1, none⟩ = some (.string l.2) := cell_of_row _ _ 1 _ _ _ q0
  have h2 := h.gw HB.out
  have CM := Lib.hid (fun n => um_all (h2.gw (below_drewN8 W n)))
  have HW := Lib.hid hW
  have qL := fun W => run_look_nil 0 0 W l.1 l.2
  clear h h2 hW q0
  unfold lkV
  go_enter Try.func16, Try.ntmps16
  go_upto_region 1 with fail
  rw [HW.out]
  go_quiet ((go_at_call 26; (try simp only [World.drewN_drewN]); exact Calls.quiet_of_same (CM.out _)))
  go_wp2
  refine bodyPost_ret (v := .tuple #[.int .i64 0, .bool false]) (by simp [results, Try.results16, go_sem]) rfl ⟨rfl, below_next HB.out (below_drewN8 W _)⟩
set_option maxHeartbeats 2000000 in
theorem um_take {w : World} {p : Value} (h : UM w p) (tx snap last : Int) (l : Lk) : Calls Try.prog 12 #[p, .int .i64 tx, .int .i64 snap, .int .i64 last, lkV l] w fun e w' => e = .returned (.int .i64 2) ∧ Below w.heap.size w w' := by
  have HB := Lib.hid (show Below w.heap.size w (w.alloc (.cells #[.string l.1, .string l.2] 34)) from (Below.refl _ _).alloc (Nat.le_refl _) _)
  have MN := Lib.hid (h _ HB.out)
  clear h
  unfold lkV
  go_enter Try.func12, Try.ntmps12
  go_wp2_with (go_at_call 23; go_loud (refine MN.out.mono ?_; rintro e w1 ⟨rfl, hw⟩; replace hw := hw.symm; subst hw))
  go_ret
  exact ⟨rfl, HB.out⟩
set_option maxHeartbeats 2000000 in
theorem um_delete (fv : Value) (w : World) : Calls Try.prog 25 #[.map none, fv] w fun e w' => e = .returned (.tuple #[]) ∧ Below w.heap.size w w' := by
  have hrg := run_range_nilMap (P := Try.prog) w mapT _ _ Try.underlying54
  have hnx : ∀ ty, (Instr.next (.pointer (some ⟨w.heap.size, 0, none⟩)) false ty).run Try.prog (w.alloc (.mapIter none 0 #[] 0)) = _ := fun ty => run_next_nilMap _ ty 0 0 #[]
  go_enter Try.func25, Try.ntmps25
  go_wp2
  refine wp_loop_rounds 1 ?_
  rw [rounds_succ]
  go_wp2
  go_end0
  exact ⟨rfl, (Below.refl _ _).alloc (Nat.le_refl _) _⟩
set_option maxHeartbeats 2000000 in
theorem um_release {w : World} {p : Value} (h : UM w p) (tx : Int) : Calls Try.prog 13 #[p, .int .i64 tx] w fun e w' => e = .returned (.int .i64 0) ∧ Below w.heap.size w w' := by
  have HB := Lib.hid (show Below w.heap.size w (w.alloc (.cells #[.int .i64 tx] 2)) from (Below.refl _ _).alloc (Nat.le_refl _) _)
  have CL := Lib.hid (fun W (g : Below w.heap.size w W) => um_len (h.gw g))
  have CA := Lib.hid (fun W (g : Below w.heap.size w W) => um_all (h.gw g))
  have CD := Lib.hid um_delete
  clear h
  go_enter Try.func13, Try.ntmps13
  go_upto_region 2 with (go_at_call 15; go_loud (refine (CL.out _ HB.out).mono ?_; rintro e w1 ⟨rfl, hw⟩; replace hw := hw.symm; subst hw))
  go_wp2_with (first
    | (go_at_call 26; go_loud (refine (CA.out _ HB.out).mono ?_; rintro e w1 ⟨rfl, hw⟩; replace hw := hw.symm; subst hw))
    | (go_at_call 25; go_loud (refine (CD.out _ _).mono ?_; rintro e w3 ⟨rfl, b3⟩; have B3 := Lib.hid (below_next HB.out b3); clear b3))
    | (go_at_call 15; go_loud (refine (CL.out _ B3.out).mono ?_; rintro e w4 ⟨rfl, hw⟩; replace hw := hw.symm; subst hw)))
  go_ret
  exact ⟨rfl, B3.out⟩
theorem nil_sortN (w : World) : Calls Try.prog 35 #[.slice none 0 0] w fun e w' => e = .returned (.tuple #[]) ∧ w' = w := AnyM.slices_Sort_int_none Try.sortN none 0 w
theorem nil_compactN (w : World) : Calls Try.prog 36 #[.slice none 0 0] w fun e w' => e = .returned (.slice none 0 0) ∧ w' = w := AnyG.slices_Compact_int_empty Try.compactN none 0 w
theorem nil_sortL (w : World) : Calls Try.prog 31 #[.slice none 0 0, .func (.func 32) #[] #[]] w fun e w' => e = .returned (.tuple #[]) ∧ w' = w := AnyF.slices_SortFunc_none Try.sortL none 0 (.func (.func 32) #[] #[]) w
set_option maxHeartbeats 4000000 in
theorem um_holders {w : World} {p : Value} (h : UM w p) (table lo hi : ByteArray) : Calls Try.prog 20 #[p, .string table, .string lo, .string hi] w fun e w' => e = .returned (.slice none 0 0) ∧ Below w.heap.size w w' := by
  have CA := Lib.hid (um_all h)
  have hrg := run_range_nilMap (P := Try.prog) w mapT _ _ Try.underlying54
  have hnx : ∀ ty, (Instr.next (.pointer (some ⟨w.heap.size, 0, none⟩)) false ty).run Try.prog (w.alloc (.mapIter none 0 #[] 0)) = _ := fun ty => run_next_nilMap _ ty 0 0 #[]
  clear h
  go_enter Try.func20, Try.ntmps20
  go_upto_region 3 with (go_at_call 26; go_loud (refine CA.out.mono ?_; rintro e w1 ⟨rfl, hw⟩; replace hw := hw.symm; subst hw))
  refine wp_loop_rounds 1 ?_
  rw [rounds_succ]
  go_wp2_with (first
    | (go_at_call 35; go_loud (refine (nil_sortN _).mono ?_; rintro e w5 ⟨rfl, hw⟩; replace hw := hw.symm; subst hw))
    | (go_at_call 36; go_loud (refine (nil_compactN _).mono ?_; rintro e w6 ⟨rfl, hw⟩; replace hw := hw.symm; subst hw)))
  go_ret
  exact ⟨rfl, (Below.refl _ _).alloc (Nat.le_refl _) _⟩
set_option maxHeartbeats 4000000 in
theorem um_held {w : World} {p : Value} (h : UM w p) (tx : Int) : Calls Try.prog 17 #[p, .int .i64 tx] w fun e w' => e = .returned (.slice none 0 0) ∧ Below w.heap.size w w' := by
  have CA := Lib.hid (um_all h)
  have hrg := run_range_nilMap (P := Try.prog) w mapT _ _ Try.underlying54
  have hnx : ∀ ty, (Instr.next (.pointer (some ⟨w.heap.size, 0, none⟩)) false ty).run Try.prog (w.alloc (.mapIter none 0 #[] 0)) = _ := fun ty => run_next_nilMap _ ty 0 0 #[]
  clear h
  go_enter Try.func17, Try.ntmps17
  go_upto_region 3 with (go_at_call 26; go_loud (refine CA.out.mono ?_; rintro e w1 ⟨rfl, hw⟩; replace hw := hw.symm; subst hw))
  refine wp_loop_rounds 1 ?_
  rw [rounds_succ]
  go_wp2_with (go_at_call 31; go_loud (refine (nil_sortL _).mono ?_; rintro e w5 ⟨rfl, hw⟩; replace hw := hw.symm; subst hw))
  go_ret
  exact ⟨rfl, (Below.refl _ _).alloc (Nat.le_refl _) _⟩
end Go.Proofs.Ytghnafknbgmagaa
