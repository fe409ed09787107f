/- Layer 10: Tracked and Active beside the law's list. -/
import Derived.Test.YtknppiebncdjmaaGreatSsLst
import Derived.Test.YtknppiebncdjmaaGreatJBO
import Derived.Test.YtknppiebncdjmaaGreatSsCap
import Derived.Test.YtknppiebncdjmaaGreatTxActive
set_option linter.unusedVariables false
namespace Go.Proofs.YtknppiebncdjmaaGreat
set_option maxRecDepth 100000
open Go.RowKit

theorem Cap10.new {a k l : Int} {r : Nat} (h : capOk a k (r : Int) l) : Cap10 ⟨a, k, r, l⟩ (new10 0) :=
  ⟨by have := h.1.1; show (0 : Int) ≤ a; omega, by have := h.2.1.1; show (0 : Int) - 0 ≤ k; omega, Nat.zero_le _, by have := h.2.2.2.1; show (0 : Int) ≤ l; omega, fun t ht => (by cases ht)⟩
theorem w10Active {w : World} {G K : Nat → Prop} {b : Nat} {c : Cp10} {S : St10} (h : M10 w G K b c S) (hb : Bd10 S) :
    Calls Tryz.prog 28 #[.pointer (some ⟨b, 0, none⟩)] w fun e w' => ∃ A cc xs, e = .returned (.slice A (activeP S.list) cc) ∧ SB w' A (1 * activeP S.list) xs ∧ Below w.heap.size w w' := by
  obtain ⟨ab, kb, fb, lm, lr, rr, GR, P, m, s, hc, rfl, rfl⟩ := h
  have hk := s.pgok hc hb
  refine (wxActive api9 m hk (by have := hk.na; have := hk.ca.2; omega)).mono ?_
  rintro e w' ⟨v, rfl, hs, g⟩
  obtain ⟨A, cc, rfl, hsb, -⟩ := hs.form
  rw [← s.actN]
  exact ⟨A, cc, _, rfl, hsb, g⟩
section
variable {R a q d : Nat} {c : Cp10} {rows : List Lk} {X : Pl10} {now : Int} {P : Nat → Prop} {wf w0 w : World} {p b : Nat}
theorem DoIs.track (h : DoIs P wf w0 p b rows c X w) (L : Lp10 R a q d c X X.rs now) (C : Cap10 c X.S) (ha : a ≤ 1048576) (hn : now ≤ 1000000000000000) :
    Calls Tryz.prog 27 #[.pointer (some ⟨b, 0, none⟩)] w fun e w' => ∃ kn ln : Int, e = .returned (.agg #[.int .i64 (aliveN X.rs : Nat), .int .i64 kn, .int .i64 ln, .int .i64 (lockN X.rs : Nat)]) ∧ ¬ ((aliveN X.rs : Nat) : Int) > c.act ∧ ¬ kn > c.kept ∧ ¬ ln > (c.reads : Int) ∧ ¬ ((lockN X.rs : Nat) : Int) > c.locks ∧ Below w.heap.size w w' := by
  obtain ⟨G, K, V, ms, D, hms⟩ := h
  have hl := L.cnt.n
  refine (w10Track D.m (Inv10.bd L.inv (by omega) (by omega))).mono ?_
  rintro e w' ⟨rfl, g⟩
  have e1 := L.inv.actives
  have e2 := L.inv.held
  have c1 := C.act
  have c2 := C.kept
  have c3 := C.reads
  have c4 := C.locks
  refine ⟨_, _, by rw [← e1, ← e2], ?_, ?_, ?_, ?_, g⟩
  · rw [← e1]; omega
  · omega
  · omega
  · rw [← e2]; omega
theorem alive_lt (L : Lp10 R a q d c X X.rs now) (ha : a ≤ 1048576) (hq : q ≤ 1048576) (k : Nat) : aliveN (X.rs.take k) ≤ 1048576 ∧ lockN (X.rs.take k) ≤ 1048576 * 1048576 := by
  have h1 := alive_le (X.rs.take k)
  have h2 := List.length_take_le' k X.rs
  have h3 := L.cnt.n
  have h4 := lock_le (X.rs.take k) q fun r hr => L.cnt.w r (List.mem_of_mem_take hr)
  have h5 : (X.rs.take k).length * q ≤ 1048576 * 1048576 := Nat.mul_le_mul (by omega) hq
  omega
end
theorem eqTrk (W : World) : (binOp .eql 73 (.agg #[.int .i64 0, .int .i64 0, .int .i64 0, .int .i64 0]) (.agg #[.int .i64 0, .int .i64 0, .int .i64 0, .int .i64 0])).run Tryz.prog W = .ok (.bool true) W := by kernel_rfl
end Go.Proofs.YtknppiebncdjmaaGreat
