/- The walk of SireadCovers: true whatever comes in. -/
import Derived.Test.YtcpifanhmkblmaaJAR
import Derived.Test.YtcpifanhmkblmaaJBM
namespace Go.Proofs.Ytcpifanhmkblmaa
set_option maxRecDepth 100000
set_option maxRecDepth 100000
open Go.RowKit

set_option maxHeartbeats 16000000 in
theorem walk_SireadCovers (a b : Rd) (w : World) (ha : RdIs a) (hb : RdIs b) :
    Calls Try.prog 4 #[.agg #[.string a.tb, .int .i64 a.kd, .string a.lo, .string a.hi], .agg #[.string b.tb, .int .i64 b.kd, .string b.lo, .string b.hi]] w fun e w' => e = .returned (.bool true) ∧ Below w.heap.size w w' := by
  obtain ⟨W1, hW1⟩ : ∃ W, w.alloc (.cells #[.string a.tb, .int .i64 a.kd, .string a.lo, .string a.hi] 31) = W := ⟨_, rfl⟩
  obtain ⟨W, hW⟩ : ∃ W, W1.alloc (.cells #[.string b.tb, .int .i64 b.kd, .string b.lo, .string b.hi] 31) = W := ⟨_, rfl⟩
  have HW1 := Lib.hid hW1
  have HW := Lib.hid hW
  have b1 : Below w.heap.size w W1 := by rw [← hW1]; exact below_alloc9 _ _
  have b2 : Below W1.heap.size W1 W := by rw [← hW]; exact below_alloc9 _ _
  have HB := Lib.hid (below_next b1 b2)
  have hz1 : W1.heap.size = w.heap.size + 1 := by rw [← hW1]; simp
  have q1 := rd_box w a
  rw [hW1] at q1
  have q1 := (b2.block _ (by omega)).trans q1
  have q2 := rd_box W1 b
  rw [hW, hz1] at q2
  have S0 : W.cell? ⟨w.heap.size, 0, none⟩ = some (.string a.tb) ∧ W.cell? ⟨w.heap.size, 1, none⟩ = some (.int .i64 a.kd) ∧ W.cell? ⟨w.heap.size, 2, none⟩ = some (.string a.lo) ∧ W.cell? ⟨w.heap.size, 3, none⟩ = some (.string a.hi) ∧ W.cell? ⟨w.heap.size + 1, 0, none⟩ = some (.string b.tb) ∧ W.cell? ⟨w.heap.size + 1, 1, none⟩ = some (.int .i64 b.kd) ∧ W.cell? ⟨w.heap.size + 1, 2, none⟩ = some (.string b.lo) ∧ W.cell? ⟨w.heap.size + 1, 3, none⟩ = some (.string b.hi) :=
    ⟨cell_of_row _ _ 0 _ _ _ q1, cell_of_row _ _ 1 _ _ _ q1, cell_of_row _ _ 2 _ _ _ q1, cell_of_row _ _ 3 _ _ _ q1, cell_of_row _ _ 0 _ _ _ q2, cell_of_row _ _ 1 _ _ _ q2, cell_of_row _ _ 2 _ _ _ q2, cell_of_row _ _ 3 _ _ _ q2⟩
  have SK := Lib.hid (fun (W' : World) (hb : Below W.heap.size W W') => (⟨keep_below S0.1 hb, keep_below S0.2.1 hb, keep_below S0.2.2.1 hb, keep_below S0.2.2.2.1 hb, keep_below S0.2.2.2.2.1 hb, keep_below S0.2.2.2.2.2.1 hb, keep_below S0.2.2.2.2.2.2.1 hb, keep_below S0.2.2.2.2.2.2.2 hb⟩ : W'.cell? ⟨w.heap.size, 0, none⟩ = some (.string a.tb) ∧ W'.cell? ⟨w.heap.size, 1, none⟩ = some (.int .i64 a.kd) ∧ W'.cell? ⟨w.heap.size, 2, none⟩ = some (.string a.lo) ∧ W'.cell? ⟨w.heap.size, 3, none⟩ = some (.string a.hi) ∧ W'.cell? ⟨w.heap.size + 1, 0, none⟩ = some (.string b.tb) ∧ W'.cell? ⟨w.heap.size + 1, 1, none⟩ = some (.int .i64 b.kd) ∧ W'.cell? ⟨w.heap.size + 1, 2, none⟩ = some (.string b.lo) ∧ W'.cell? ⟨w.heap.size + 1, 3, none⟩ = some (.string b.hi)))
  have CL := Lib.hid (fun W => wlive9 api9 W)
  have CP := Lib.hid (fun W => wpCovers W a b (by have := ha.lo; omega) (by have := hb.lo; omega))
  have CR := Lib.hid (fun W => wrCovers W a b (by have := ha.lo; omega) (by have := hb.lo; omega))
  unfold rdV at CP CR
  obtain ⟨z, hz⟩ : ∃ z, coversP a b = z := ⟨_, rfl⟩
  rw [hz] at CP CR
  clear hW1 hW b1 b2 hz1 q1 q2 ha hb hz
  cases z
  all_goals
    go_enter Try.func4, Try.ntmps4
    go_upto_region 1 with fail
    rw [HW1.out, HW.out]
    have HX := Lib.hid (Below.refl W.heap.size W)
    go_region_held3 (fun w' => w'.cell? ⟨w.heap.size, 0, none⟩ = some (.string a.tb) ∧ w'.cell? ⟨w.heap.size, 1, none⟩ = some (.int .i64 a.kd) ∧ w'.cell? ⟨w.heap.size, 2, none⟩ = some (.string a.lo) ∧ w'.cell? ⟨w.heap.size, 3, none⟩ = some (.string a.hi) ∧ w'.cell? ⟨w.heap.size + 1, 0, none⟩ = some (.string b.tb) ∧ w'.cell? ⟨w.heap.size + 1, 1, none⟩ = some (.int .i64 b.kd) ∧ w'.cell? ⟨w.heap.size + 1, 2, none⟩ = some (.string b.lo) ∧ w'.cell? ⟨w.heap.size + 1, 3, none⟩ = some (.string b.hi))
      (first | exact S0 | exact SA | exact SB | exact SC)
      (first
        | (go_at_call 11; go_loud (refine (CL.out _).mono ?_; rintro e w3 ⟨rfl, g3⟩; have G3 := Lib.hid ((Below.refl W.heap.size W).drew.trans g3); have SA := SK.out w3 G3.out; clear g3))
        | (go_at_call 18; go_loud (refine (CP.out _).mono ?_; rintro e w4 ⟨rfl, g4⟩; have G4 := Lib.hid (below_next (by first | exact G3.out | exact G5.out) g4); have SB := SK.out w4 G4.out; clear g4))
        | (go_at_call 19; go_loud (refine (CR.out _).mono ?_; rintro e w5 ⟨rfl, g5⟩; have G5 := Lib.hid (below_next (by first | exact G4.out | exact G3.out) g5); have SC := SK.out w5 G5.out; clear g5)))
    all_goals
      go_wp2
      go_ret
      exact ⟨rfl, below_next HB.out (by first | exact G5.out | exact G4.out)⟩
end Go.Proofs.Ytcpifanhmkblmaa
