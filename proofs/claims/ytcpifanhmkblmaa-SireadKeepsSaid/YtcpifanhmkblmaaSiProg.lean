/- Layer 9: the program's notes alone, between two rounds. -/
import Derived.Test.YtcpifanhmkblmaaSiPlay
import Derived.Test.YtcpifanhmkblmaaJAR
namespace Go.Proofs.Ytcpifanhmkblmaa
set_option maxRecDepth 100000
set_option maxRecDepth 100000
open Go.RowKit

structure Prog9 (w0 w : World) (G : Nat → Prop) (r b most : Nat) (L : List Nt) : Prop where
  two : Two9 M9 w0 w G r b most L []
theorem Prog9.below {w0 w w' : World} {G : Nat → Prop} {r b most : Nat} {L : List Nt} (h : Prog9 w0 w G r b most L) (g : Below w.heap.size w w') : Prog9 w0 w' G r b most L := ⟨h.two.below api9 g⟩
theorem Prog9.box {w0 w : World} {G : Nat → Prop} {r b most : Nat} {L : List Nt} (h : Prog9 w0 w G r b most L) : ¬ G w.heap.size ∧ b ≠ w.heap.size :=
  ⟨fun hg => by have := api9.lt h.two.m _ hg; omega, by have := h.two.n.lt; omega⟩
theorem Prog9.inv {w0 w : World} {G : Nat → Prop} {r b most : Nat} {L : List Nt} (h : Prog9 w0 w G r b most L) : Inv9 most L ∧ L.length ≤ 65536 ∧ 1 ≤ most ∧ L.length ≤ most := by
  obtain ⟨h1, -, h3, h4⟩ := api9.inv h.two.m
  exact ⟨h1, Nat.le_trans h1.cap h4, h3, h1.cap⟩
/-- Two notes of a list lie in one row. -/
theorem SB.rd2 {w : World} {A : Option Addr} {L : List Rd} (h : SB w A (4 * L.length) (cellsR L)) {i k : Nat} {p q : Rd} (hp : L[i]? = some p) (hq : L[k]? = some q) : ∃ g o, A = some ⟨g, o, none⟩ ∧
    (w.cell? ⟨g, o + i * 4, none⟩ = some (.string p.tb) ∧ w.cell? ⟨g, o + i * 4 + 1, none⟩ = some (.int .i64 p.kd) ∧ w.cell? ⟨g, o + i * 4 + 2, none⟩ = some (.string p.lo) ∧ w.cell? ⟨g, o + i * 4 + 3, none⟩ = some (.string p.hi)) ∧
    (w.cell? ⟨g, o + k * 4, none⟩ = some (.string q.tb) ∧ w.cell? ⟨g, o + k * 4 + 1, none⟩ = some (.int .i64 q.kd) ∧ w.cell? ⟨g, o + k * 4 + 2, none⟩ = some (.string q.lo) ∧ w.cell? ⟨g, o + k * 4 + 3, none⟩ = some (.string q.hi)) := by
  obtain ⟨g, o, rfl, h1⟩ := h.rd hp
  obtain ⟨g2, o2, e, h2⟩ := h.rd hq
  cases e
  exact ⟨g, o, rfl, h1, h2⟩
end Go.Proofs.Ytcpifanhmkblmaa
