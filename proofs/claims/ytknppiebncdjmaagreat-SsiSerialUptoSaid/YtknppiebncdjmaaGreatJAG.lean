import Derived.Test.YtknppiebncdjmaaGreatJAF
import Derived.StillTailTactics
/- Layer 9: the reference's coarsest. -/
namespace Go.Proofs.YtknppiebncdjmaaGreat
set_option maxRecDepth 100000
set_option maxRecDepth 100000
open Go.RowKit

end Go.Proofs.YtknppiebncdjmaaGreat

/- Layer 9: the reference's Note. -/
namespace Go.Proofs.YtknppiebncdjmaaGreat
set_option maxRecDepth 100000
set_option maxRecDepth 100000
open Go.RowKit

/-- The reference's notes lie in block b, their row in a block of F. -/
structure RN (F : Nat → Prop) (w : World) (b : Nat) (most : Nat) (L : List Nt) : Prop where
  ex : ∃ A c, w.heap[b]? = some (.cells #[.int .i64 (most : Int), .slice A L.length c] 32 (0, 0)) ∧ SB w A (5 * L.length) (cellsT L) ∧ L.length ≤ c ∧ c ≤ maxLen ∧ ∀ ad, A = some ad → ad.block ≠ b ∧ F ad.block ∧ ad.block < w.heap.size
theorem RN.gw {F : Nat → Prop} {w w' : World} {b most : Nat} {L : List Nt} (h : RN F w b most L) (g : Below w.heap.size w w') : RN F w' b most L := by
  obtain ⟨A, c, h1, h2, h3, h4, h5⟩ := h.ex
  exact ⟨A, c, (g.block b (Array.getElem?_eq_some_iff.1 h1).1).trans h1, h2.gw g, h3, h4, fun ad e => ⟨(h5 ad e).1, (h5 ad e).2.1, Nat.lt_of_lt_of_le (h5 ad e).2.2 g.size⟩⟩
theorem RN.lt {F : Nat → Prop} {w : World} {b most : Nat} {L : List Nt} (h : RN F w b most L) : b < w.heap.size := by
  obtain ⟨A, c, h1, -⟩ := h.ex
  exact (Array.getElem?_eq_some_iff.1 h1).1
/-- Texts short enough that one byte more can be put behind them. -/
def SzL (L : List Nt) : Prop := ∀ n ∈ L, n.2.lo.size ≤ 140737488355328
def leftT (t : Int) (x : Rd) (n : Nt) : Bool := !(decide (n.1 = t) && coversP x n.2)
/-- The reference's notes with another list. -/
theorem RN.set {F : Nat → Prop} {w : World} {b most base : Nat} {L M : List Nt} {A : Option Addr} {c : Nat} (h : w.heap[b]? = some (.cells #[.int .i64 (most : Int), .slice A L.length c] 32 (0, 0))) {v : Value} (ho : SO seT base w v M.length (cellsT M)) (hb : b < base) (hF : ∀ k, base ≤ k → F k) :
    RN F (w.setCell ⟨b, 1, none⟩ v) b most M ∧ Out (fun k => k = b) w (w.setCell ⟨b, 1, none⟩ v) := by
  obtain ⟨A2, c2, rfl, hsb, hnc, hcm, hbl⟩ := ho.form
  have hlt : ∀ ad, A2 = some ad → ad.block < w.heap.size := fun ad e => by
    subst e
    rcases ho.own.2 with ⟨hv, -⟩ | ⟨g, cap, cur, hv, hb2, hg, -⟩
    · cases hv
    · simp only [Value.slice.injEq, Option.some.injEq] at hv
      rw [hv.1]
      exact (Array.getElem?_eq_some_iff.1 hg).1
  have h1 : (w.setCell ⟨b, 1, none⟩ (.slice A2 M.length c2)).heap[b]? = some (.cells #[.int .i64 (most : Int), .slice A2 M.length c2] 32 (0, 0)) := by
    rw [heap_setCell_same w b 1 _ _ _ h]; rfl
  have ho2 : Out (fun k => k = b) w (w.setCell ⟨b, 1, none⟩ (.slice A2 M.length c2)) := (Out.refl (fun k => k = b) w).setCell (p := ⟨b, 1, none⟩) (.inl rfl) _
  refine ⟨⟨A2, c2, h1, ⟨hsb.len, hsb.one, fun h0 => ?_⟩, hnc, hcm, fun ad e => ⟨by have := hbl ad e; omega, hF _ (hbl ad e), Nat.lt_of_lt_of_le (hlt ad e) ho2.size⟩⟩, ho2⟩
  obtain ⟨g, o, e, hc⟩ := hsb.cell h0
  refine ⟨g, o, e, fun k u hk => ho2.cell (hc k u hk) ?_⟩
  have := hbl _ e
  show ¬ g = b
  simp only at this
  omega

end Go.Proofs.YtknppiebncdjmaaGreat
