/- The walk of DiskNone: true whatever comes in. -/
import Derived.Test.YtfeoihnjfngmpaaDNone
import Derived.Test.YtfeoihnjfngmpaaDOpen
namespace Go.Proofs.Ytfeoihnjfngmpaa
open Go.RowKit

set_option maxRecDepth 10000 in
set_option maxHeartbeats 2000000 in
theorem walk_DiskNone0 (n : Int) (v1 v2 : Value) (w : World) :
    Calls Try.prog 9 #[.int .i64 n, v1, v2] w fun e w' => e = .returned (.bool true) ∧ Below w.heap.size w w' := by
  have hb := begun_true w
  go_enter Try.func9, Try.ntmps9
  go_wp2_with (go_at_call 20; refine hb.mono ?_; rintro e w1 ⟨rfl, b1⟩; have B1 := Lib.hid b1; clear b1)
  obtain ⟨W, hW⟩ : ∃ W, W = (w1.alloc (.cells #[.slice none 0 0, .slice none 0 0, .slice none 0 0, .bool false, .int .i64 0, .int .i64 0, .int .i64 0] 71)).alloc (.cells #[.pointer none, .pointer (some ⟨w1.heap.size, 0, none⟩)] 23) := ⟨_, rfl⟩
  have e0 : W.cell? ⟨w1.heap.size + 1, 0, none⟩ = some (.pointer none) := by rw [hW, cell_of_row _ _ _ _ _ _ (heap_alloc2_new _ _ _)]; rfl
  have e1 : W.cell? ⟨w1.heap.size + 1, 1, none⟩ = some (.pointer (some ⟨w1.heap.size, 0, none⟩)) := by rw [hW, cell_of_row _ _ _ _ _ _ (heap_alloc2_new _ _ _)]; rfl
  have e2 : W.cell? ⟨w1.heap.size, 0, none⟩ = some (.slice none 0 0) := by rw [hW, cell_of_row _ _ _ _ _ _ (heap_alloc2_old _ _ _)]; rfl
  have HB := Lib.hid (show Below w.heap.size w W by rw [hW]; exact (B1.out.alloc B1.out.size _).alloc (by simp; exact Nat.le_succ_of_le B1.out.size) _)
  rw [← hW]
  clear hW
  go_loopw [8, 9, 10, 11, 12, 13, 14, 21] (fun _ _ _ _ _ _ _ i wr => ∃ k : Nat, i = .int .i64 (k : Nat) ∧ k ≤ 2 ∧ W = wr) (fun _ _ _ _ _ _ _ i _ => 2 - (intOf i).toNat)
  case atStart => exact ⟨0, rfl, by omega, rfl⟩
  case round =>
    obtain ⟨k, rfl, hk, rfl⟩ := hrel
    rcases (show k = 0 ∨ k = 1 ∨ k = 2 by omega) with rfl | rfl | rfl
    · have hu : Un W (.pointer none) := .inl rfl
      go_wp2_with (first
        | (go_at_call 25; refine (uread hu n).mono ?_; rintro e w2 ⟨rfl, rfl⟩)
        | (go_at_call 28; refine (uimage hu).mono ?_; rintro e w2 ⟨rfl, rfl⟩)
        | (go_at_call 35; refine (ucounts hu).mono ?_; rintro e w2 ⟨rfl, rfl⟩)
        | (go_at_call 13; refine (uwrite hu n v1).mono ?_; rintro e w2 ⟨rfl, rfl⟩)
        | (go_at_call 15; refine (usync hu).mono ?_; rintro e w2 ⟨rfl, rfl⟩)
        | (go_at_call 14; refine (uplan hu n).mono ?_; rintro e w2 ⟨rfl, rfl⟩)
        | (go_at_call 23; refine (ucrash hu v2).mono ?_; rintro e w2 ⟨rfl, rfl⟩)
        | (go_at_call 24; refine (uoff hu).mono ?_; rintro e w2 ⟨rfl, rfl⟩)
        | (go_at_call 27; refine (ublocks hu).mono ?_; rintro e w2 ⟨rfl, rfl⟩)
        | (go_at_call 22; refine (upending hu).mono ?_; rintro e w2 ⟨rfl, rfl⟩)
        | (go_at_call 12; refine (uclone hu).mono ?_; rintro e w2 ⟨rfl, rfl⟩))
      go_roundw
      case rel => exact ⟨1, rfl, by omega, trivial⟩
      case measure => simp [intOf]
    · have hu : Un W (.pointer (some ⟨w1.heap.size, 0, none⟩)) := .inr ⟨_, rfl, e2⟩
      go_wp2_with (first
        | (go_at_call 25; refine (uread hu n).mono ?_; rintro e w2 ⟨rfl, rfl⟩)
        | (go_at_call 28; refine (uimage hu).mono ?_; rintro e w2 ⟨rfl, rfl⟩)
        | (go_at_call 35; refine (ucounts hu).mono ?_; rintro e w2 ⟨rfl, rfl⟩)
        | (go_at_call 13; refine (uwrite hu n v1).mono ?_; rintro e w2 ⟨rfl, rfl⟩)
        | (go_at_call 15; refine (usync hu).mono ?_; rintro e w2 ⟨rfl, rfl⟩)
        | (go_at_call 14; refine (uplan hu n).mono ?_; rintro e w2 ⟨rfl, rfl⟩)
        | (go_at_call 23; refine (ucrash hu v2).mono ?_; rintro e w2 ⟨rfl, rfl⟩)
        | (go_at_call 24; refine (uoff hu).mono ?_; rintro e w2 ⟨rfl, rfl⟩)
        | (go_at_call 27; refine (ublocks hu).mono ?_; rintro e w2 ⟨rfl, rfl⟩)
        | (go_at_call 22; refine (upending hu).mono ?_; rintro e w2 ⟨rfl, rfl⟩)
        | (go_at_call 12; refine (uclone hu).mono ?_; rintro e w2 ⟨rfl, rfl⟩))
      go_roundw
      case rel => exact ⟨2, rfl, by omega, trivial⟩
      case measure => simp [intOf]
    · go_wp2
      go_ret
      exact ⟨rfl, HB.out⟩
theorem walk_DiskNone (a0 : Int) (A1 : Option Addr) (n1 c1 : Nat) (z1 : List Int) (A2 : Option Addr) (n2 c2 : Nat) (z2 : List Int) (w : World) (ha0 : -9223372036854775808 ≤ a0 ∧ a0 ≤ 9223372036854775807) (h1 : RB w A1 n1 z1) (hn1 : n1 ≤ c1) (hc1 : c1 ≤ 140737488351232) (h2 : RI w A2 n2 z2) (hn2 : n2 ≤ c2) (hc2 : c2 ≤ 17592186043904) :
    Calls Try.prog 9 #[.int .i64 a0, .slice A1 n1 c1, .slice A2 n2 c2] w fun e w' => e = .returned (.bool true) ∧ Below w.heap.size w w' :=
  walk_DiskNone0 a0 _ _ w
end Go.Proofs.Ytfeoihnjfngmpaa
