/- The walk of LogNone. -/
import Derived.Test.YtapjgancaldgaaaLNone
namespace Go.Proofs.Ytapjgancaldgaaa
set_option maxRecDepth 100000
open Go.RowKit
set_option maxHeartbeats 1000000 in
theorem walk_LogNone (A0 : Option Addr) (n0 c0 : Nat) (z0 : List Int) (w : World) (h0 : RB w A0 n0 z0) (hn0 : n0 ≤ c0) (hc0 : c0 ≤ 140737488351232) :
    Calls Try.prog 12 #[.slice A0 n0 c0] w fun e w' => e = .returned (.bool true) ∧ Below w.heap.size w w' := by
  have hd : ∀ W : World, Un W (.pointer none) := fun _ => .inl rfl
  have hl : ∀ W : World, LU W (.pointer none) := fun _ => .inl rfl
  obtain ⟨W, hW⟩ : ∃ W, W = w.alloc (.cells #[.pointer none, .int .i64 0, .int .i64 0, .int .i64 0, .int .i64 0, .int .u64 0, .int .u64 0, .int .i64 0, .int .i64 0, .bool false] 83) := ⟨_, rfl⟩
  have hm : LU W (.pointer (some ⟨w.heap.size, 0, none⟩)) := .inr ⟨_, rfl, by rw [hW, cell_of_row _ _ _ _ _ _ (heap_alloc_new _ _)]; rfl⟩
  have HB := Lib.hid (show Below w.heap.size w W by rw [hW]; exact (Below.refl _ _).alloc (Nat.le_refl _) _)
  have HD := Lib.hid hd
  have HL := Lib.hid hl
  have HM := Lib.hid hm
  have HW := hW.symm
  clear hd hl hm hW h0
  go_enter Try.func12, Try.ntmps12
  go_wp2_with (first
    | (go_at_call 41; refine (nformat (HD.out _)).mono ?_; rintro e w2 ⟨rfl, rfl⟩)
    | (go_at_call 38; refine (nopen (HD.out _)).mono ?_; rintro e w2 ⟨rfl, rfl⟩)
    | (go_at_call 31; refine (wlive _).mono ?_; rintro e w' ⟨rfl, rfl⟩)
    | (go_at_call_of 45 (Value.pointer none); refine (nappend (HL.out _) _).mono ?_; rintro e w2 ⟨rfl, rfl⟩)
    | (go_at_call_of 46 (Value.pointer none); refine (ncheck (HL.out _) _).mono ?_; rintro e w2 ⟨rfl, rfl⟩)
    | (go_at_call_of 42 (Value.pointer none); refine (nroom (HL.out _)).mono ?_; rintro e w2 ⟨rfl, rfl⟩)
    | (go_at_call_of 44 (Value.pointer none); refine (ncount (HL.out _)).mono ?_; rintro e w2 ⟨rfl, rfl⟩)
    | (go_at_call_of 45 (Value.pointer (some ⟨w.heap.size, 0, none⟩)); refine (nappend HM.out _).mono ?_; rintro e w2 ⟨rfl, rfl⟩)
    | (go_at_call_of 46 (Value.pointer (some ⟨w.heap.size, 0, none⟩)); refine (ncheck HM.out _).mono ?_; rintro e w2 ⟨rfl, rfl⟩)
    | (go_at_call_of 42 (Value.pointer (some ⟨w.heap.size, 0, none⟩)); refine (nroom HM.out).mono ?_; rintro e w2 ⟨rfl, rfl⟩)
    | (go_at_call_of 44 (Value.pointer (some ⟨w.heap.size, 0, none⟩)); refine (ncount HM.out).mono ?_; rintro e w2 ⟨rfl, rfl⟩))
  go_ret
  exact ⟨rfl, HB.out⟩
end Go.Proofs.Ytapjgancaldgaaa
