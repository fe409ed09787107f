/- The calls of wire.Uint and of the reference's Uint: a new slice that holds the number's bytes. -/
import Derived.Test.YthodmnekljbljaaOwnB
import Derived.Test.YthodmnekljbljaaUintB
import Derived.Deep.DeepMust
namespace Go.Proofs.Ythodmnekljbljaa
open Go.RowKit

/-- What a call that makes a slice of bytes leaves: the slice holds zs, it lies in new memory, what was there is as it was. -/
def Makes (w : World) (zs : List Int) (e : Ending) (w' : World) : Prop := ∃ v, e = .returned v ∧ OB w.heap.size w' v zs ∧ Below w.heap.size w w'

theorem rb_one (w : World) (z : Int) (h : 0 ≤ z ∧ z ≤ 255) : RB (w.alloc (.cells #[.int .u8 z] 5)) (some ⟨w.heap.size, 0, none⟩) 1 [z] := by
  have := RB.new w (zs := [z]) (e := 5) (fr := (0, 0)) (by simpa using h)
  simpa using this

theorem digit_u8 (m : Nat) : IntKind.u8.wrap (IntKind.u8.wrap ((m : Int) % 128) + 128) = ((m % 128 + 128 : Nat) : Int) := by
  rw [IntKind.wrap_u8, IntKind.wrap_u8]; omega

set_option maxHeartbeats 400000 in
set_option maxRecDepth 100000 in
theorem wuint (u : Nat) (w : World) (hu : u < 18446744073709551616) :
    Calls Try.prog 16 #[.int .u64 u] w (Makes w (uintB u)) := by
  have hmk := run_make_bytes w 0 10 (by omega) (by omega) (by omega)
  have hob := ob_made w 0 10 (by omega) (by omega)
  have HOB := Lib.hid hob
  clear hob
  go_enter Try.func16, Try.ntmps16
  go_wp2
  go_loopw [0, 3] (fun x v wr => ∃ (m : Nat) (acc : List Int), x = .int .u64 m ∧ m < 18446744073709551616 ∧ OB w.heap.size wr v acc ∧ Below w.heap.size w wr ∧ Hid (uintB u = acc ++ uintB m) ∧ Hid (m * 2 ^ acc.length ≤ u)) (fun x _ _ => (intOf x).toNat)
  case atStart => exact ⟨u, [], rfl, hu, HOB.out, (Below.refl _ _).alloc (Nat.le_refl _) _, rfl, Lib.hid (by simp)⟩
  case round =>
    obtain ⟨m, acc, rfl, hm, hown, hb, HU, hroom⟩ := hrel
    clear hmk HOB
    have hsz := hb.size
    by_cases hlt : m < 128
    · have HL := Lib.hid (uintB_last m hlt)
      have hle : acc.length + 1 ≤ 10 := by
        have := uintB_len u hu
        rw [HU.out, HL.out] at this
        simpa using this
      go_wp2_with (at_builtin; refine ob_append rfl (.tmp 16) (.tmp 19) rfl w.heap.size _ acc rfl (hown.alloc _) _ 1 1 [(m : Int)] rfl (rb_one wr m (by omega)) (by omega) (by simp; omega) ?_; intro v' w1 hown' hb1 hg1)
      go_ret
      exact ⟨v', rfl, by rw [HU.out, HL.out]; exact hown', (hb.alloc hsz _).trans hb1⟩
    · have HL := Lib.hid (uintB_on' m hlt)
      have hl := room_len m acc.length u hroom.out (by omega) hu
      have hr := Lib.hid (room_step m acc.length u hroom.out)
      go_wp2_with (at_builtin; refine ob_append rfl (.tmp 7) (.tmp 12) rfl w.heap.size _ acc rfl (hown.alloc _) _ 1 1 [(m : Int) % 128 + 128] rfl (rb_one wr _ (by omega)) (by omega) (by simp; omega) ?_; intro v' w1 hown' hb1 hg1)
      go_roundw
      case rel => exact ⟨m / 128, acc ++ [(m : Int) % 128 + 128], by go_num, by omega, hown', ((hb.alloc hsz _).trans hb1), Lib.hid (by rw [HU.out, HL.out]; simp), Lib.hid (by simpa using hr.out)⟩
      case measure => simp [intOf]; omega

set_option maxHeartbeats 400000 in
set_option maxRecDepth 100000 in
theorem ruint (u : Nat) (w : World) (hu : u < 18446744073709551616) :
    Calls Try.prog 17 #[.int .u64 u] w (Makes w (uintB u)) := by
  go_enter Try.func17, Try.ntmps17
  go_wp2
  go_loopw [0, 3] (fun x v wr => ∃ (m : Nat) (acc : List Int), x = .int .u64 m ∧ m < 18446744073709551616 ∧ OB w.heap.size wr v acc ∧ Below w.heap.size w wr ∧ Hid (uintB u = acc ++ uintB m) ∧ Hid (m * 2 ^ acc.length ≤ u)) (fun x _ _ => (intOf x).toNat)
  case atStart => exact ⟨u, [], rfl, hu, OB.nil _ _, Below.refl _ _, rfl, Lib.hid (by simp)⟩
  case round =>
    obtain ⟨m, acc, rfl, hm, hown, hb, HU, hroom⟩ := hrel
    have hsz := hb.size
    by_cases hlt : m < 128
    · have HL := Lib.hid (uintB_last m hlt)
      have hle : acc.length + 1 ≤ 10 := by
        have := uintB_len u hu
        rw [HU.out, HL.out] at this
        simpa using this
      go_wp2_with (at_builtin; refine ob_append rfl (.tmp 15) (.tmp 18) rfl w.heap.size _ acc rfl (hown.alloc _) _ 1 1 [(m : Int)] rfl (rb_one wr m (by omega)) (by omega) (by simp; omega) ?_; intro v' w1 hown' hb1 hg1)
      go_ret
      exact ⟨v', rfl, by rw [HU.out, HL.out]; exact hown', (hb.alloc hsz _).trans hb1⟩
    · have HL := Lib.hid (uintB_on' m hlt)
      have hl := room_len m acc.length u hroom.out (by omega) hu
      have hr := Lib.hid (room_step m acc.length u hroom.out)
      go_wp2_with (at_builtin; refine ob_append rfl (.tmp 6) (.tmp 11) rfl w.heap.size _ acc rfl (hown.alloc _) _ 1 1 [(m : Int) % 128 + 128] rfl (rb_one wr _ (by omega)) (by omega) (by simp; omega) ?_; intro v' w1 hown' hb1 hg1)
      go_roundw
      case rel => exact ⟨m / 128, acc ++ [(m : Int) % 128 + 128], by go_num, by omega, hown', ((hb.alloc hsz _).trans hb1), Lib.hid (by rw [HU.out, HL.out]; simp), Lib.hid (by simpa using hr.out)⟩
      case measure => simp [intOf]; omega
end Go.Proofs.Ythodmnekljbljaa
