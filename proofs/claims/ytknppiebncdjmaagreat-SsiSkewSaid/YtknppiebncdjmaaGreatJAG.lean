import Derived.Test.YtknppiebncdjmaaGreatJAF
import Derived.StillTailTactics
import Derived.Deep.DeepCutAuto
set_option linter.unusedVariables false
namespace Go.Proofs.YtknppiebncdjmaaGreat
set_option maxRecDepth 100000
open Go.RowKit

structure RN (F : Nat → Prop) (w : World) (b : Nat) (most : Nat) (L : List Nt) : Prop where
  ex : ∃ A c, w.heap[b]? = some (.cells #[.int .i64 (most : Int), .slice A L.length c] 32 (0, 0)) ∧ SB w A (5 * L.length) (cellsT L) ∧ L.length ≤ c ∧ c ≤ maxLen ∧ ∀ ad, A = some ad → ad.block ≠ b ∧ F ad.block ∧ ad.block < w.heap.size
theorem RN.gw {F : Nat → Prop} {w w' : World} {b most : Nat} {L : List Nt} (h : RN F w b most L) (g : Below w.heap.size w w') : RN F w' b most L := by
  obtain ⟨A, c, h1, h2, h3, h4, h5⟩ := h.ex
  exact ⟨A, c, (g.block b (Array.getElem?_eq_some_iff.1 h1).1).trans h1, h2.gw g, h3, h4, fun ad e => ⟨(h5 ad e).1, (h5 ad e).2.1, Nat.lt_of_lt_of_le (h5 ad e).2.2 g.size⟩⟩
theorem RN.lt {F : Nat → Prop} {w : World} {b most : Nat} {L : List Nt} (h : RN F w b most L) : b < w.heap.size := by
  obtain ⟨A, c, h1, -⟩ := h.ex
  exact (Array.getElem?_eq_some_iff.1 h1).1
def SzL (L : List Nt) : Prop := ∀ n ∈ L, n.2.lo.size ≤ 140737488355328
def leftT (t : Int) (x : Rd) (n : Nt) : Bool := !(decide (n.1 = t) && coversP x n.2)
theorem RN.set {F : Nat → Prop} {w : World} {b most base : Nat} {L M : List Nt} {A : Option Addr} {c : Nat} (h : w.heap[b]? = some (.cells #[.int .i64 (most : Int), .slice A L.length c] 32 (0, 0))) {v : Value} (ho : SO seT base w v M.length (cellsT M)) (hb : b < base) (hF : ∀ k, base ≤ k → F k) :
    RN F (w.setCell ⟨b, 1, none⟩ v) b most M ∧ Out (fun k => k = b) w (w.setCell ⟨b, 1, none⟩ v) := by
  obtain ⟨A2, c2, rfl, hsb, hnc, hcm, hbl⟩ := ho.form
  have hlt : ∀ ad, A2 = some ad → ad.block < w.heap.size := fun ad e => by
    subst e
    rcases ho.own.2 with ⟨hv, -⟩ | ⟨g, cap, cur, hv, hb2, hg, -⟩
    · cases hv
    · simp only [Value.slice.injEq, Option.some.injEq] at hv
      rw [hv.1]
      exact (Array.getElem?_eq_some_iff.1 hg).1
  have h1 : (w.setCell ⟨b, 1, none⟩ (.slice A2 M.length c2)).heap[b]? = some (.cells #[.int .i64 (most : Int), .slice A2 M.length c2] 32 (0, 0)) := by
    rw [heap_setCell_same w b 1 _ _ _ h]; rfl
  have ho2 : Out (fun k => k = b) w (w.setCell ⟨b, 1, none⟩ (.slice A2 M.length c2)) := (Out.refl (fun k => k = b) w).setCell (p := ⟨b, 1, none⟩) (.inl rfl) _
  refine ⟨⟨A2, c2, h1, ⟨hsb.len, hsb.one, fun h0 => ?_⟩, hnc, hcm, fun ad e => ⟨by have := hbl ad e; omega, hF _ (hbl ad e), Nat.lt_of_lt_of_le (hlt ad e) ho2.size⟩⟩, ho2⟩
  obtain ⟨g, o, e, hc⟩ := hsb.cell h0
  refine ⟨g, o, e, fun k u hk => ho2.cell (hc k u hk) ?_⟩
  have := hbl _ e
  show ¬ g = b
  simp only at this
  omega

end Go.Proofs.YtknppiebncdjmaaGreat

namespace Go.Proofs.YtknppiebncdjmaaGreat
set_option maxRecDepth 100000
open Go.RowKit

def txP (L : List Nt) (f : Nt → Bool) : List Int := riseP ((L.filter f).map (·.1))
end Go.Proofs.YtknppiebncdjmaaGreat

namespace Go.Proofs.YtknppiebncdjmaaGreat
set_option maxRecDepth 100000
open Go.RowKit

def aheadP (a b : Rd) : Bool := if a.tb.toList == b.tb.toList then (if a.kd == b.kd then (if a.lo.toList == b.lo.toList then klB a.hi b.hi else klB a.lo b.lo) else decide (a.kd < b.kd)) else klB a.tb b.tb
theorem rd_ext {a b : Rd} (h1 : a.tb = b.tb) (h2 : a.kd = b.kd) (h3 : a.lo = b.lo) (h4 : a.hi = b.hi) : a = b := by
  cases a; cases b; simp only at h1 h2 h3 h4; subst h1; subst h2; subst h3; subst h4; rfl
theorem ahead_is (a b : Rd) : aheadP a b = true ↔ klB a.tb b.tb = true ∨ (a.tb = b.tb ∧ (a.kd < b.kd ∨ (a.kd = b.kd ∧ (klB a.lo b.lo = true ∨ (a.lo = b.lo ∧ klB a.hi b.hi = true))))) := by
  unfold aheadP
  rw [toList_beq8, toList_beq8]
  by_cases h1 : a.tb = b.tb
  · rw [if_pos (by simpa using h1), h1, klB_irrefl]
    by_cases h2 : a.kd = b.kd
    · rw [if_pos (by simpa using h2), h2]
      by_cases h3 : a.lo = b.lo
      · rw [if_pos (by simpa using h3), h3, klB_irrefl]; simp
      · rw [if_neg (by simpa using h3)]; simp [h3]
    · rw [if_neg (by simpa using h2)]; simp [h2]
  · rw [if_neg (by simpa using h1)]; simp [h1]
theorem ahead_irr (a : Rd) : aheadP a a = false := by
  cases h : aheadP a a
  · rfl
  · rcases (ahead_is _ _).1 h with h1 | ⟨-, h1 | ⟨-, h1 | ⟨-, h1⟩⟩⟩
    · rw [klB_irrefl] at h1; cases h1
    · omega
    · rw [klB_irrefl] at h1; cases h1
    · rw [klB_irrefl] at h1; cases h1
theorem ahead_tr (a b c : Rd) (h1 : aheadP a b = true) (h2 : aheadP b c = true) : aheadP a c = true := by
  rw [ahead_is] at *
  rcases h1 with h1 | ⟨e1, h1⟩ <;> rcases h2 with h2 | ⟨e2, h2⟩
  · exact .inl (klB_trans h1 h2)
  · exact .inl (e2 ▸ h1)
  · exact .inl (e1 ▸ h2)
  · refine .inr ⟨e1.trans e2, ?_⟩
    rcases h1 with h1 | ⟨d1, h1⟩ <;> rcases h2 with h2 | ⟨d2, h2⟩
    · exact .inl (by omega)
    · exact .inl (by omega)
    · exact .inl (by omega)
    · refine .inr ⟨d1.trans d2, ?_⟩
      rcases h1 with h1 | ⟨c1, h1⟩ <;> rcases h2 with h2 | ⟨c2, h2⟩
      · exact .inl (klB_trans h1 h2)
      · exact .inl (c2 ▸ h1)
      · exact .inl (c1 ▸ h2)
      · exact .inr ⟨c1.trans c2, klB_trans h1 h2⟩
theorem ahead_tri (a b : Rd) (h1 : aheadP a b = false) (h2 : aheadP b a = false) : a = b := by
  have n1 : ¬ aheadP a b = true := by rw [h1]; simp
  have n2 : ¬ aheadP b a = true := by rw [h2]; simp
  rw [ahead_is] at n1 n2
  have e1 : a.tb = b.tb := klB_tri (by cases h : klB a.tb b.tb with | false => rfl | true => exact absurd (.inl h) n1) (by cases h : klB b.tb a.tb with | false => rfl | true => exact absurd (.inl h) n2)
  have e2 : a.kd = b.kd := by
    have m1 : ¬ a.kd < b.kd := fun h => n1 (.inr ⟨e1, .inl h⟩)
    have m2 : ¬ b.kd < a.kd := fun h => n2 (.inr ⟨e1.symm, .inl h⟩)
    omega
  have e3 : a.lo = b.lo := klB_tri (by cases h : klB a.lo b.lo with | false => rfl | true => exact absurd (.inr ⟨e1, .inr ⟨e2, .inl h⟩⟩) n1) (by cases h : klB b.lo a.lo with | false => rfl | true => exact absurd (.inr ⟨e1.symm, .inr ⟨e2.symm, .inl h⟩⟩) n2)
  have e4 : a.hi = b.hi := klB_tri (by cases h : klB a.hi b.hi with | false => rfl | true => exact absurd (.inr ⟨e1, .inr ⟨e2, .inr ⟨e3, h⟩⟩⟩) n1) (by cases h : klB b.hi a.hi with | false => rfl | true => exact absurd (.inr ⟨e1.symm, .inr ⟨e2.symm, .inr ⟨e3.symm, h⟩⟩⟩) n2)
  exact rd_ext e1 e2 e3 e4
theorem ahead_asy (a b : Rd) (h : aheadP a b = true) : aheadP b a = false := by
  cases h2 : aheadP b a
  · rfl
  · have := ahead_tr _ _ _ h h2; rw [ahead_irr] at this; cases this

end Go.Proofs.YtknppiebncdjmaaGreat
