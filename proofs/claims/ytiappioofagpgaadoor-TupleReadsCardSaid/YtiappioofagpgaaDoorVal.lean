/- Values: what the statement's own comparisons answer of two that are alike; the calls that make values. -/
import Derived.Test.YtiappioofagpgaaDoorProg
import Derived.Test.YtiappioofagpgaaDoorFl
import Derived.Test.YtiappioofagpgaaDoorMem
import Derived.WalkKit
import Derived.WalkLawsBesides
import Derived.Laws.ComplexArith
import Derived.Laws.Cover3
import Derived.BigQuiet
import Derived.Deep.QuietTactic
import Derived.Deep.RegionHeld3
namespace Go.Proofs.YtiappioofagpgaaDoor
open Go.RowKit

/-- A value: its kind, its number, its bool, its bytes, its point's parts. -/
def vA (k n : Int) (y : Bool) (s : ByteArray) (a b : Nat) : Value := .agg #[.int .i64 k, .int .i64 n, .bool y, .string s, .complex .f64 a b]

def minusB (x : Nat) : Bool := (Ieee.double.order x 0 == some .lt) || (x == 2 ^ 63)

set_option maxHeartbeats 400000 in
theorem minus_lt (x : Nat) (w : World) (h : (FloatKind.f64.format.order x 0 == some .lt) = true) :
    Calls Tryd.prog 29 #[.float .f64 x] w fun e w' => e = .returned (.bool true) ∧ w = w' := by
  go_enter Tryd.func29, Tryd.ntmps29
  go_wp2
  go_ret
  exact ⟨rfl, rfl⟩
set_option maxHeartbeats 400000 in
theorem minus_no (x : Nat) (w : World) (h : (FloatKind.f64.format.order x 0 == some .lt) = false) (h2 : (FloatKind.f64.format.order x 0 == some .eq) = false) :
    Calls Tryd.prog 29 #[.float .f64 x] w fun e w' => e = .returned (.bool false) ∧ w = w' := by
  go_enter Tryd.func29, Tryd.ntmps29
  go_wp2
  go_ret
  exact ⟨rfl, rfl⟩

set_option maxHeartbeats 400000 in
theorem minus_0 (w : World) : Calls Tryd.prog 29 #[.float .f64 0] w fun e w' => e = .returned (.bool false) ∧ w = w' := by
  have h : (FloatKind.f64.format.order 0 0 == some .lt) = false := by decide
  have h2 : (FloatKind.f64.format.order 0 0 == some .eq) = true := by decide
  have h3 := fun (w : World) (t : TypeId) => run_float_arith (P := Tryd.prog) w .quo t .f64 4607182418800017408 0 9218868437227405312 (by decide)
  have h4 : (FloatKind.f64.format.order 9218868437227405312 0 == some .lt) = false := by decide
  go_enter Tryd.func29, Tryd.ntmps29
  go_wp2
  go_ret
  exact ⟨rfl, rfl⟩
set_option maxHeartbeats 400000 in
theorem minus_n0 (w : World) : Calls Tryd.prog 29 #[.float .f64 9223372036854775808] w fun e w' => e = .returned (.bool true) ∧ w = w' := by
  have h : (FloatKind.f64.format.order 9223372036854775808 0 == some .lt) = false := by decide
  have h2 : (FloatKind.f64.format.order 9223372036854775808 0 == some .eq) = true := by decide
  have h3 := fun (w : World) (t : TypeId) => run_float_arith (P := Tryd.prog) w .quo t .f64 4607182418800017408 9223372036854775808 18442240474082181120 (by decide)
  have h4 : (FloatKind.f64.format.order 18442240474082181120 0 == some .lt) = true := by decide
  go_enter Tryd.func29, Tryd.ntmps29
  go_wp2
  go_ret
  exact ⟨rfl, rfl⟩
theorem minus_any (x : Nat) (w : World) (hx : x < 2 ^ 64) : Calls Tryd.prog 29 #[.float .f64 x] w fun e w' => e = .returned (.bool (minusB x)) ∧ w = w' := by
  unfold minusB
  rcases hl : (Ieee.double.order x 0 == some .lt) with _ | _
  · rcases he : (Ieee.double.order x 0 == some .eq) with _ | _
    · have hn : (x == 2 ^ 63) = false := by
        rcases h : (x == 2 ^ 63) with _ | _
        · rfl
        · have : x = 2 ^ 63 := by simpa using h
          subst this
          exact absurd he (by decide)
      rw [hn]
      exact minus_no x w hl he
    · rcases zero_word x hx (by simpa using he) with rfl | rfl
      · exact minus_0 w
      · exact minus_n0 w
  · exact minus_lt x w hl

set_option maxHeartbeats 1000000 in
theorem same_yes (k n : Int) (y : Bool) (s : ByteArray) (a b : Nat) (w : World) (ha : Some64 a) (hb : Some64 b) :
    Calls Tryd.prog 28 #[vA k n y s a b, vA k n y s a b] w fun e w' => e = .returned (.bool true) ∧ Below w.heap.size w w' := by
  have h1 : (FloatKind.f64.format.order a a == some .eq) = true := by rw [show FloatKind.f64.format.order a a = some .eq from order_self a ha]; rfl
  have h2 : (FloatKind.f64.format.order b b == some .eq) = true := by rw [show FloatKind.f64.format.order b b = some .eq from order_self b hb]; rfl
  have H1 := (Below.refl w.heap.size w).alloc (Nat.le_refl _) (.cells #[.int .i64 k, .int .i64 n, .bool y, .string s, .complex .f64 a b] 34)
  unfold vA
  go_enter Tryd.func28, Tryd.ntmps28
  go_wp2
  go_ret
  exact ⟨rfl, H1.alloc (by simp) _⟩

theorem cell_later {w w' : World} {p : Addr} {v : Value} (h : w.cell? p = some v) (hb : Below w.heap.size w w') : w'.cell? p = some v := keep_below h hb

set_option maxHeartbeats 2000000 in
theorem bits_yes (k n : Int) (y : Bool) (s : ByteArray) (a b : Nat) (w : World) (ha : Some64 a) (hb : Some64 b) (la : a < 2 ^ 64) (lb : b < 2 ^ 64) :
    Calls Tryd.prog 18 #[vA k n y s a b, vA k n y s a b] w fun e w' => e = .returned (.bool true) ∧ Below w.heap.size w w' := by
  have C1 := Lib.hid fun W => same_yes k n y s a b W ha hb
  have HM := Lib.hid fun x W (h : x < 2 ^ 64) => minus_any x W h
  have LA := Lib.hid la
  have LB := Lib.hid lb
  have ea : (minusB a == minusB a) = true := by simp
  have eb : (minusB b == minusB b) = true := by simp
  have H1 := (Below.refl w.heap.size w).alloc (Nat.le_refl _) (.cells #[.int .i64 k, .int .i64 n, .bool y, .string s, .complex .f64 a b] 34)
  have H2 := H1.alloc (by simp) (.cells #[.int .i64 k, .int .i64 n, .bool y, .string s, .complex .f64 a b] 34)
  clear ha hb la lb H1
  unfold vA at C1 ⊢
  go_enter Tryd.func18, Tryd.ntmps18
  go_wp2
  generalize hW : (w.alloc (.cells #[.int .i64 k, .int .i64 n, .bool y, .string s, .complex .f64 a b] 34)).alloc (.cells #[.int .i64 k, .int .i64 n, .bool y, .string s, .complex .f64 a b] 34) = W at H2 ⊢
  have f0 : W.cell? ⟨w.heap.size, 0, none⟩ = some (.int .i64 k) := by subst hW; simp
  have f1 : W.cell? ⟨w.heap.size, 1, none⟩ = some (.int .i64 n) := by subst hW; simp
  have f2 : W.cell? ⟨w.heap.size, 2, none⟩ = some (.bool y) := by subst hW; simp
  have f3 : W.cell? ⟨w.heap.size, 3, none⟩ = some (.string s) := by subst hW; simp
  have f4 : W.cell? ⟨w.heap.size, 4, none⟩ = some (.complex .f64 a b) := by subst hW; simp
  have g0 : W.cell? ⟨w.heap.size + 1, 0, none⟩ = some (.int .i64 k) := by subst hW; simp
  have g1 : W.cell? ⟨w.heap.size + 1, 1, none⟩ = some (.int .i64 n) := by subst hW; simp
  have g2 : W.cell? ⟨w.heap.size + 1, 2, none⟩ = some (.bool y) := by subst hW; simp
  have g3 : W.cell? ⟨w.heap.size + 1, 3, none⟩ = some (.string s) := by subst hW; simp
  have g4 : W.cell? ⟨w.heap.size + 1, 4, none⟩ = some (.complex .f64 a b) := by subst hW; simp
  have hz : w.heap.size + 1 < W.heap.size := by subst hW; simp
  clear hW
  have hb0 : Below W.heap.size W W := Below.refl _ _
  go_region_held3 (fun w' => (w'.cell? ⟨w.heap.size, 0, none⟩ = some (.int .i64 k) ∧ w'.cell? ⟨w.heap.size, 1, none⟩ = some (.int .i64 n) ∧ w'.cell? ⟨w.heap.size, 2, none⟩ = some (.bool y) ∧ w'.cell? ⟨w.heap.size, 3, none⟩ = some (.string s) ∧ w'.cell? ⟨w.heap.size, 4, none⟩ = some (.complex .f64 a b)) ∧
      w'.cell? ⟨w.heap.size + 1, 0, none⟩ = some (.int .i64 k) ∧ w'.cell? ⟨w.heap.size + 1, 1, none⟩ = some (.int .i64 n) ∧ w'.cell? ⟨w.heap.size + 1, 2, none⟩ = some (.bool y) ∧ w'.cell? ⟨w.heap.size + 1, 3, none⟩ = some (.string s) ∧ w'.cell? ⟨w.heap.size + 1, 4, none⟩ = some (.complex .f64 a b))
    (first | exact ⟨⟨f0, f1, f2, f3, f4⟩, g0, g1, g2, g3, g4⟩ | (exact ⟨⟨keep_below f0 B1, keep_below f1 B1, keep_below f2 B1, keep_below f3 B1, keep_below f4 B1⟩, keep_below g0 B1, keep_below g1 B1, keep_below g2 B1, keep_below g3 B1, keep_below g4 B1⟩))
    (first
      | (go_at_call 28; refine (C1.out _).mono ?_; rintro e w1 ⟨rfl, hb1⟩; have B1 : Below W.heap.size W w1 := below_next (Below.refl _ W).drew hb1)
      | (go_at_call 29; refine (HM.out _ _ (by first | exact LA.out | exact LB.out)).mono ?_; rintro e w2 ⟨rfl, rfl⟩))
  all_goals
    go_wp2
    go_ret
    exact ⟨rfl, below_next H2 B1⟩
end Go.Proofs.YtiappioofagpgaaDoor
