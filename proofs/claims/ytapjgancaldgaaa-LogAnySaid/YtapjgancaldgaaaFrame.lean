/- The calls of wire.Frame and of the reference's Frame. -/
import Derived.Test.YtapjgancaldgaaaSum
import Derived.Test.YtapjgancaldgaaaWord
import Derived.Deep.RegionHeld3
namespace Go.Proofs.Ytapjgancaldgaaa
set_option maxRecDepth 100000
open Go.RowKit

/-- What Frame leaves: the frame in new memory, no error. -/
def MakesF (w : World) (zs : List Int) (e : Ending) (w' : World) : Prop := ∃ v, e = .returned (.tuple #[v, .int .i64 0]) ∧ OB w.heap.size w' v (frameB zs) ∧ Below w.heap.size w w'

theorem frame_rows (zs : List Int) (v : Nat) : splice (splice (splice (List.replicate (8 + zs.length) 0) 0 (wordB v)) 4 (wordB (Crc.sum zs))) 8 zs = wordB v ++ (wordB (Crc.sum zs) ++ zs) :=
  splice_splice_splice _ _ _ _ 4 4 (wordB_len _) (wordB_len _) (by simp)

set_option maxHeartbeats 400000 in
theorem wframe_long (A : Option Addr) (n c : Nat) (w : World) (hl : 1048576 < n) (hn : n ≤ 140737488355328) :
    Calls Try.prog 99 #[.slice A n c] w fun e w' => e = .returned (.tuple #[.slice none 0 0, .int .i64 3]) ∧ w = w' := by
  go_enter Try.func99, Try.ntmps99
  go_wp2
  go_ret2
  exact ⟨rfl, rfl⟩

set_option maxHeartbeats 1000000 in
theorem wframe (A : Option Addr) (n c : Nat) (zs : List Int) (w : World) (h : RB w A n zs) (hl : n ≤ 1048576) :
    Calls Try.prog 99 #[.slice A n c] w (MakesF w zs) := by
  have hlen := h.len
  have hs := Crc.sum_lt h.byte
  have hmk : (Instr.makeSlice 34 (.int .i64 (8 + (n : Int))) (.int .i64 (8 + (n : Int)))).run Try.prog w = .ok (.slice (some ⟨w.heap.size, 0, none⟩) (8 + n) (8 + n)) (w.alloc (.cells (madeCells #[.int .u8 0] (8 + n)) 5)) := by
    have := run_make_bytes w (8 + (n : Int)) (8 + (n : Int)) (by omega) (by omega) (by omega)
    rw [show (8 + (n : Int)).toNat = 8 + n from by omega] at this
    exact this
  have hrow := row_made w (8 + n)
  have hb0 : Below w.heap.size w (w.alloc (.cells (madeCells #[.int .u8 0] (8 + n)) 5)) := (Below.refl _ _).alloc (Nat.le_refl _) _
  have ROW := Lib.hid hrow
  clear hrow
  have HL := Lib.hid hlen
  clear hlen
  go_enter Try.func99, Try.ntmps99
  go_wp2_with fail
  refine (wputWord w.heap.size 0 (8 + n) (8 + n) n _ _ ROW.out (by simp; omega) (by omega) (by omega) (by omega)).mono ?_
  rintro e w1 ⟨rfl, hrow1, hg1⟩
  have hb1 : Below w.heap.size w w1 := hb0.grown hg1 (by simp) (fun k hk => by injection hk with hk; omega)
  have h1 := h.below' hb1
  clear hmk ROW hb0 hg1
  go_wp2_with fail
  have i1 : (4 : Int) ≤ 8 + (n : Int) := by omega
  have i2 : 4 ≤ 8 + n := by omega
  have i3 : ¬ 8 + n = 4 := by omega
  have h1d := h1.drew
  have hrow1d := hrow1.drew
  have hls : 4 + 4 ≤ (splice (List.replicate (8 + n) (0 : Int)) 0 (wordB n)).length := by
    rw [length_splice _ _ _ (by simp [wordB_len]; omega)]; simp
  go_region_held3 (fun w' => RB w' A n zs) (first | exact h1 | exact h1d | exact h2)
    (first
      | (go_at_call 105; refine (wsum _ _ _ zs _ (by first | exact h1 | exact h1d) (by omega)).mono ?_; rintro e w2 ⟨rfl, rfl⟩)
      | (go_at_call 108; refine (wputWord w.heap.size 4 (8 + n - 4) (8 + n - 4) (Crc.sum zs) _ _ hrow1d hls (by omega) (by omega) hs).mono ?_; rintro e w2 ⟨rfl, hrow2, hg2⟩; have hb2 := hb1.drew.grown hg2 hb1.size (fun k hk => by injection hk with hk; omega); have h2 := h.below' hb2))
  clear h1 h1d hrow1 hrow1d hg2
  have i4 : (8 : Int) ≤ 8 + (n : Int) := by omega
  have i5 : 8 ≤ 8 + n := by omega
  have hl2 : 8 + n ≤ (splice (splice (List.replicate (8 + n) (0 : Int)) 0 (wordB n)) 4 (wordB (Crc.sum zs))).length := by
    rw [length_splice _ _ _ (by rw [wordB_len]; exact hls), length_splice _ _ _ (by simp [wordB_len]; omega)]; simp
  have fin : ∀ w3, Row w3 w.heap.size (splice (splice (splice (List.replicate (8 + n) (0 : Int)) 0 (wordB n)) 4 (wordB (Crc.sum zs))) 8 zs) → OB w.heap.size w3 (.slice (some ⟨w.heap.size, 0, none⟩) (8 + n) (8 + n)) (frameB zs) := by
    intro w3 hr
    have hlen := HL.out
    have e : splice (splice (splice (List.replicate (8 + n) (0 : Int)) 0 (wordB n)) 4 (wordB (Crc.sum zs))) 8 zs = frameB zs := by
      have := frame_rows zs n
      rw [hlen] at this
      rw [this]; unfold frameB; rw [hlen]
    rw [e] at hr
    have ho := hr.ob (base := w.heap.size) (frameB_byte zs h.byte) (by rw [frameB_len]; omega) (Nat.le_refl _)
    rw [frameB_len, hlen, Nat.add_comm] at ho
    exact ho
  have FIN := Lib.hid fin
  clear fin hls hb1
  rcases Nat.eq_zero_or_pos n with rfl | hpos
  · go_wp2_with (with_reducible refine row_copy rfl (.tmp 23) (.tmp 24) rfl (some ⟨w.heap.size, 0, none⟩) A 0 0 0 c 0 rfl rfl w.heap.size 8 _ hrow2 zs h2 (Nat.min_self _) (by omega) (by omega) ?_; intro w3 hrow3 hb3)
    go_ret2
    exact ⟨_, rfl, FIN.out _ hrow3, hb2.trans hb3⟩
  · have hn0 : ¬ n = 0 := by omega
    go_wp2_with (with_reducible refine row_copy rfl (.tmp 23) (.tmp 24) rfl (some ⟨w.heap.size, 8, none⟩) A n n n c n rfl rfl w.heap.size 8 _ hrow2 zs h2 (Nat.min_self _) (fun _ => rfl) (by omega) ?_; intro w3 hrow3 hb3)
    go_ret2
    exact ⟨_, rfl, FIN.out _ hrow3, hb2.trans hb3⟩

end Go.Proofs.Ytapjgancaldgaaa
