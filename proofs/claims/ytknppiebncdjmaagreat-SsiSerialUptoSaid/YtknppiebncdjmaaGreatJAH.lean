import Derived.Test.YtknppiebncdjmaaGreatJAG
import Derived.Deep.DeepCutAuto
/- Layer 9: the reference's put, Readers, Txns, Drop, Len. -/
namespace Go.Proofs.YtknppiebncdjmaaGreat
set_option maxRecDepth 100000
set_option maxRecDepth 100000
open Go.RowKit

/-- The transactions of some notes, rising, each once. -/
def txP (L : List Nt) (f : Nt → Bool) : List Int := riseP ((L.filter f).map (·.1))
end Go.Proofs.YtknppiebncdjmaaGreat

/- Layer 9: the reference's ahead, Of, New. -/
namespace Go.Proofs.YtknppiebncdjmaaGreat
set_option maxRecDepth 100000
set_option maxRecDepth 100000
open Go.RowKit

/-- The order of notes. -/
def aheadP (a b : Rd) : Bool := if a.tb.toList == b.tb.toList then (if a.kd == b.kd then (if a.lo.toList == b.lo.toList then klB a.hi b.hi else klB a.lo b.lo) else decide (a.kd < b.kd)) else klB a.tb b.tb
theorem rd_ext {a b : Rd} (h1 : a.tb = b.tb) (h2 : a.kd = b.kd) (h3 : a.lo = b.lo) (h4 : a.hi = b.hi) : a = b := by
  cases a; cases b; simp only at h1 h2 h3 h4; subst h1; subst h2; subst h3; subst h4; rfl
theorem ahead_is (a b : Rd) : aheadP a b = true ↔ klB a.tb b.tb = true ∨ (a.tb = b.tb ∧ (a.kd < b.kd ∨ (a.kd = b.kd ∧ (klB a.lo b.lo = true ∨ (a.lo = b.lo ∧ klB a.hi b.hi = true))))) := by
  unfold aheadP
  rw [toList_beq8, toList_beq8]
  by_cases h1 : a.tb = b.tb
  · rw [if_pos (by simpa using h1), h1, klB_irrefl]
    by_cases h2 : a.kd = b.kd
    · rw [if_pos (by simpa using h2), h2]
      by_cases h3 : a.lo = b.lo
      · rw [if_pos (by simpa using h3), h3, klB_irrefl]; simp
      · rw [if_neg (by simpa using h3)]; simp [h3]
    · rw [if_neg (by simpa using h2)]; simp [h2]
  · rw [if_neg (by simpa using h1)]; simp [h1]
theorem ahead_irr (a : Rd) : aheadP a a = false := by
  cases h : aheadP a a
  · rfl
  · rcases (ahead_is _ _).1 h with h1 | ⟨-, h1 | ⟨-, h1 | ⟨-, h1⟩⟩⟩
    · rw [klB_irrefl] at h1; cases h1
    · omega
    · rw [klB_irrefl] at h1; cases h1
    · rw [klB_irrefl] at h1; cases h1
theorem ahead_tr (a b c : Rd) (h1 : aheadP a b = true) (h2 : aheadP b c = true) : aheadP a c = true := by
  rw [ahead_is] at *
  rcases h1 with h1 | ⟨e1, h1⟩ <;> rcases h2 with h2 | ⟨e2, h2⟩
  · exact .inl (klB_trans h1 h2)
  · exact .inl (e2 ▸ h1)
  · exact .inl (e1 ▸ h2)
  · refine .inr ⟨e1.trans e2, ?_⟩
    rcases h1 with h1 | ⟨d1, h1⟩ <;> rcases h2 with h2 | ⟨d2, h2⟩
    · exact .inl (by omega)
    · exact .inl (by omega)
    · exact .inl (by omega)
    · refine .inr ⟨d1.trans d2, ?_⟩
      rcases h1 with h1 | ⟨c1, h1⟩ <;> rcases h2 with h2 | ⟨c2, h2⟩
      · exact .inl (klB_trans h1 h2)
      · exact .inl (c2 ▸ h1)
      · exact .inl (c1 ▸ h2)
      · exact .inr ⟨c1.trans c2, klB_trans h1 h2⟩
theorem ahead_tri (a b : Rd) (h1 : aheadP a b = false) (h2 : aheadP b a = false) : a = b := by
  have n1 : ¬ aheadP a b = true := by rw [h1]; simp
  have n2 : ¬ aheadP b a = true := by rw [h2]; simp
  rw [ahead_is] at n1 n2
  have e1 : a.tb = b.tb := klB_tri (by cases h : klB a.tb b.tb with | false => rfl | true => exact absurd (.inl h) n1) (by cases h : klB b.tb a.tb with | false => rfl | true => exact absurd (.inl h) n2)
  have e2 : a.kd = b.kd := by
    have m1 : ¬ a.kd < b.kd := fun h => n1 (.inr ⟨e1, .inl h⟩)
    have m2 : ¬ b.kd < a.kd := fun h => n2 (.inr ⟨e1.symm, .inl h⟩)
    omega
  have e3 : a.lo = b.lo := klB_tri (by cases h : klB a.lo b.lo with | false => rfl | true => exact absurd (.inr ⟨e1, .inr ⟨e2, .inl h⟩⟩) n1) (by cases h : klB b.lo a.lo with | false => rfl | true => exact absurd (.inr ⟨e1.symm, .inr ⟨e2.symm, .inl h⟩⟩) n2)
  have e4 : a.hi = b.hi := klB_tri (by cases h : klB a.hi b.hi with | false => rfl | true => exact absurd (.inr ⟨e1, .inr ⟨e2, .inr ⟨e3, h⟩⟩⟩) n1) (by cases h : klB b.hi a.hi with | false => rfl | true => exact absurd (.inr ⟨e1.symm, .inr ⟨e2.symm, .inr ⟨e3.symm, h⟩⟩⟩) n2)
  exact rd_ext e1 e2 e3 e4
theorem ahead_asy (a b : Rd) (h : aheadP a b = true) : aheadP b a = false := by
  cases h2 : aheadP b a
  · rfl
  · have := ahead_tr _ _ _ h h2; rw [ahead_irr] at this; cases this

end Go.Proofs.YtknppiebncdjmaaGreat

/- Layer 9: the reference's Of. -/
namespace Go.Proofs.YtknppiebncdjmaaGreat
set_option maxRecDepth 100000
set_option maxRecDepth 100000
open Go.RowKit

def seR : SEl := ⟨111, 114, .agg #[.string ⟨#[]⟩, .int .i64 0, .string ⟨#[]⟩, .string ⟨#[]⟩], 4, 56⟩
theorem seR_ok : seR.Ok := ⟨by kernel_rfl, by kernel_rfl, by kernel_rfl, by decide, by decide, by decide⟩
def cellsR (ls : List Rd) : List Value := ls.flatMap rdC
theorem cellsR_len (ls : List Rd) : (cellsR ls).length = 4 * ls.length := by
  induction ls with
  | nil => rfl
  | cons p ps ih => simp only [cellsR, List.flatMap_cons, List.length_append, List.length_cons] at ih ⊢; rw [ih]; show 4 + _ = _; omega
theorem cellsR_cons (p : Rd) (ps : List Rd) : cellsR (p :: ps) = Value.string p.tb :: Value.int .i64 p.kd :: Value.string p.lo :: Value.string p.hi :: cellsR ps := by simp [cellsR, rdC]
theorem cellsR_app (a b : List Rd) : cellsR (a ++ b) = cellsR a ++ cellsR b := by simp [cellsR]
theorem cellsR_one (ps : List Rd) : ∀ u ∈ cellsR ps, u.oneCell' = true := by
  intro u hu
  simp only [cellsR, List.mem_flatMap] at hu
  obtain ⟨p, -, hu⟩ := hu
  simp [rdC] at hu
  rcases hu with rfl | rfl | rfl | rfl <;> rfl
theorem cellsR_at : ∀ (ps : List Rd) (j : Nat) (p : Rd), ps[j]? = some p → (cellsR ps)[4 * j]? = some (.string p.tb) ∧ (cellsR ps)[4 * j + 1]? = some (.int .i64 p.kd) ∧ (cellsR ps)[4 * j + 2]? = some (.string p.lo) ∧ (cellsR ps)[4 * j + 3]? = some (.string p.hi)
  | [], _, _, h => by cases h
  | q :: ps, 0, p, h => by cases h; rw [cellsR_cons]; exact ⟨rfl, rfl, rfl, rfl⟩
  | q :: ps, j + 1, p, h => by
    have := cellsR_at ps j p h
    rw [cellsR_cons]
    exact this
/-- The j-th of a list of notes. -/
theorem SB.rd {w : World} {A : Option Addr} {L : List Rd} (h : SB w A (4 * L.length) (cellsR L)) {j : Nat} {p : Rd} (hp : L[j]? = some p) : ∃ g o, A = some ⟨g, o, none⟩ ∧ w.cell? ⟨g, o + j * 4, none⟩ = some (.string p.tb) ∧ w.cell? ⟨g, o + j * 4 + 1, none⟩ = some (.int .i64 p.kd) ∧ w.cell? ⟨g, o + j * 4 + 2, none⟩ = some (.string p.lo) ∧ w.cell? ⟨g, o + j * 4 + 3, none⟩ = some (.string p.hi) := by
  obtain ⟨a0, a1, a2, a3⟩ := cellsR_at L j p hp
  have hlt := (List.getElem?_eq_some_iff.1 hp).1
  obtain ⟨g, o, e, hc⟩ := h.cell (by omega)
  refine ⟨g, o, e, ?_, ?_, ?_, ?_⟩
  · have := hc _ _ a0; rwa [Nat.mul_comm] at this
  · have := hc _ _ a1; rwa [Nat.mul_comm, ← Nat.add_assoc] at this
  · have := hc _ _ a2; rwa [Nat.mul_comm, ← Nat.add_assoc] at this
  · have := hc _ _ a3; rwa [Nat.mul_comm, ← Nat.add_assoc] at this
/-- The place of a note in a list. -/
def plR (l : List Rd) (x : Rd) : Nat := (l.takeWhile (aheadP · x)).length
def insR (l : List Rd) (x : Rd) : List Rd := l.take (plR l x) ++ [x] ++ l.drop (plR l x)
/-- A transaction's notes, in the order of the list. -/
def hisR (hs : List Nt) (tx : Int) : List Rd := (hs.filter (fun h => decide (h.1 = tx))).map (·.2)
/-- A transaction's notes, in order. -/
def ofP (hs : List Nt) (tx : Int) : List Rd := (hisR hs tx).foldl insR []
end Go.Proofs.YtknppiebncdjmaaGreat
