import Derived.Test.YtknppiebncdjmaaGreatJAC
import Derived.Test.YtknppiebncdjmaaGreatJAE
import Derived.Laws.Cover1
set_option linter.unusedVariables false
namespace Go.Proofs.YtknppiebncdjmaaGreat
set_option maxRecDepth 100000
open Go.RowKit

def rdC (x : Rd) : List Value := [.string x.tb, .int .i64 x.kd, .string x.lo, .string x.hi]
def rdV (x : Rd) : Value := .agg #[.string x.tb, .int .i64 x.kd, .string x.lo, .string x.hi]
theorem rd_box (w : World) (x : Rd) : (w.alloc (.cells #[.string x.tb, .int .i64 x.kd, .string x.lo, .string x.hi] 114)).heap[w.heap.size]? = some (.cells #[.string x.tb, .int .i64 x.kd, .string x.lo, .string x.hi] 114 (0, 0)) := heap_alloc_new _ _
theorem below_alloc9 (w : World) (o : Obj) : Below w.heap.size w (w.alloc o) := (Below.refl _ _).alloc (Nat.le_refl _) o
theorem below_drewN9 (w : World) (n : Nat) : Below w.heap.size w (w.drewN n) := ⟨rfl, rfl, rfl, Nat.le_refl _, fun _ _ => rfl⟩

theorem may_1 (tb lo hi : ByteArray) : mayP ⟨tb, 1, lo, hi⟩ = (hi.toList == []) := rfl
theorem may_2 (tb lo hi : ByteArray) : mayP ⟨tb, 2, lo, hi⟩ = ((hi.toList == []) || !(Op.bytesLess hi.toList lo.toList || hi.toList == lo.toList)) := by rw [← bl_le8 hi lo]; rfl
theorem may_3 (tb lo hi : ByteArray) : mayP ⟨tb, 3, lo, hi⟩ = ((lo.toList == []) && (hi.toList == [])) := rfl
theorem ends_2 (tb lo hi : ByteArray) : endsP ⟨tb, 2, lo, hi⟩ = (lo, hi, !(hi.toList == [])) := rfl
end Go.Proofs.YtknppiebncdjmaaGreat

namespace Go.Proofs.YtknppiebncdjmaaGreat
set_option maxRecDepth 100000
open Go.RowKit

end Go.Proofs.YtknppiebncdjmaaGreat

namespace Go.Proofs.YtknppiebncdjmaaGreat
set_option maxRecDepth 100000
open Go.RowKit

def ntC (n : Nt) : List Value := [.int .i64 n.1, .string n.2.tb, .int .i64 n.2.kd, .string n.2.lo, .string n.2.hi]
def cellsT (L : List Nt) : List Value := L.flatMap ntC
def seT : SEl := ⟨30, 222, .agg #[.int .i64 0, .string ⟨#[]⟩, .int .i64 0, .string ⟨#[]⟩, .string ⟨#[]⟩], 5, 64⟩
theorem cellsT_cons (p : Nt) (ps : List Nt) : cellsT (p :: ps) = Value.int .i64 p.1 :: Value.string p.2.tb :: Value.int .i64 p.2.kd :: Value.string p.2.lo :: Value.string p.2.hi :: cellsT ps := by simp [cellsT, ntC]
theorem cellsT_at : ∀ (ps : List Nt) (j : Nat) (p : Nt), ps[j]? = some p → (cellsT ps)[5 * j]? = some (.int .i64 p.1) ∧ (cellsT ps)[5 * j + 1]? = some (.string p.2.tb) ∧ (cellsT ps)[5 * j + 2]? = some (.int .i64 p.2.kd) ∧ (cellsT ps)[5 * j + 3]? = some (.string p.2.lo) ∧ (cellsT ps)[5 * j + 4]? = some (.string p.2.hi)
  | [], _, _, h => by cases h
  | q :: ps, 0, p, h => by cases h; rw [cellsT_cons]; exact ⟨rfl, rfl, rfl, rfl, rfl⟩
  | q :: ps, j + 1, p, h => by
    have := cellsT_at ps j p h
    rw [cellsT_cons]
    exact this
theorem SB.note {w : World} {A : Option Addr} {L : List Nt} (h : SB w A (5 * L.length) (cellsT L)) {j : Nat} {p : Nt} (hp : L[j]? = some p) : ∃ g o, A = some ⟨g, o, none⟩ ∧ w.cell? ⟨g, o + j * 5, none⟩ = some (.int .i64 p.1) ∧ w.cell? ⟨g, o + j * 5 + 1, none⟩ = some (.string p.2.tb) ∧ w.cell? ⟨g, o + j * 5 + 2, none⟩ = some (.int .i64 p.2.kd) ∧ w.cell? ⟨g, o + j * 5 + 3, none⟩ = some (.string p.2.lo) ∧ w.cell? ⟨g, o + j * 5 + 4, none⟩ = some (.string p.2.hi) := by
  obtain ⟨a0, a1, a2, a3, a4⟩ := cellsT_at L j p hp
  have hlt := (List.getElem?_eq_some_iff.1 hp).1
  obtain ⟨g, o, e, hc⟩ := h.cell (by omega)
  refine ⟨g, o, e, ?_, ?_, ?_, ?_, ?_⟩
  · have := hc _ _ a0; rwa [Nat.mul_comm] at this
  · have := hc _ _ a1; rwa [Nat.mul_comm, ← Nat.add_assoc] at this
  · have := hc _ _ a2; rwa [Nat.mul_comm, ← Nat.add_assoc] at this
  · have := hc _ _ a3; rwa [Nat.mul_comm, ← Nat.add_assoc] at this
  · have := hc _ _ a4; rwa [Nat.mul_comm, ← Nat.add_assoc] at this
end Go.Proofs.YtknppiebncdjmaaGreat

namespace Go.Proofs.YtknppiebncdjmaaGreat
set_option maxRecDepth 100000
open Go.RowKit

end Go.Proofs.YtknppiebncdjmaaGreat
