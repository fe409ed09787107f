/- Layer 10: the law's list in memory, to be gone over. -/
import Derived.Test.YtknppiebncdjmaaGreatJBN
set_option linter.unusedVariables false
namespace Go.Proofs.YtknppiebncdjmaaGreat
set_option maxRecDepth 100000
open Go.RowKit

structure Lst (w : World) (p : Nat) (A : Option Addr) (c : Nat) (ms : List RunM) : Prop where
  cell : w.cell? ⟨p, 3, none⟩ = some (.slice A ms.length c)
  sb : SB w A (8 * ms.length) (cellsF runC ms)
  wr : ∀ m ∈ ms, SB w m.wa (2 * m.r.writes.length) (cellsF lkC m.r.writes)
section
variable {P : Nat → Prop} {wf w0 w w' : World} {p b : Nat} {rows : List Lk} {c : Cp10} {X : Pl10} {A : Option Addr} {cc : Nat} {ms : List RunM}
theorem DoIs.lst (h : DoIs P wf w0 p b rows c X w) : ∃ A cc ms, Lst w p A cc ms ∧ ms.map (·.r) = X.rs := by
  obtain ⟨G, K, V, ms, D, hms⟩ := h
  exact ⟨V.la, V.lc, ms, ⟨D.d.cells.2.2.2.1, D.d.list.sb10, fun m hm => (D.d.runs m hm).2.sb10⟩, hms⟩
theorem Lst.gw (h : Lst w p A cc ms) (g : Below w.heap.size w w') : Lst w' p A cc ms := ⟨keep_below h.cell g, h.sb.gw g, fun m hm => (h.wr m hm).gw g⟩
theorem Lst.at_ (h : Lst w p A cc ms) {k : Nat} {m : RunM} (hk : ms[k]? = some m) : ∃ g o, A = some ⟨g, o, none⟩ ∧ w.cell? ⟨g, o + k * 8, none⟩ = some (.int .i64 m.r.tx) ∧ w.cell? ⟨g, o + k * 8 + 1, none⟩ = some (.int .i64 m.r.snap) ∧ w.cell? ⟨g, o + k * 8 + 2, none⟩ = some (.int .i64 m.r.begun) ∧ w.cell? ⟨g, o + k * 8 + 3, none⟩ = some (.int .i64 m.r.ended) ∧ w.cell? ⟨g, o + k * 8 + 4, none⟩ = some (.bool m.r.com) ∧ w.cell? ⟨g, o + k * 8 + 5, none⟩ = some (.bool m.r.over) ∧ w.cell? ⟨g, o + k * 8 + 6, none⟩ = some (.slice m.ra m.r.reads.length m.rc) ∧ w.cell? ⟨g, o + k * 8 + 7, none⟩ = some (.slice m.wa m.r.writes.length m.wc) := by
  obtain ⟨g, o, e, hc⟩ := h.sb.el runC_len (by omega) hk
  exact ⟨g, o, e, hc 0 _ rfl, hc 1 _ rfl, hc 2 _ rfl, hc 3 _ rfl, hc 4 _ rfl, hc 5 _ rfl, hc 6 _ rfl, hc 7 _ rfl⟩
theorem run_row {w : World} (m : RunM) : ∀ W, w.alloc (.cells #[.int .i64 m.r.tx, .int .i64 m.r.snap, .int .i64 m.r.begun, .int .i64 m.r.ended, .bool m.r.com, .bool m.r.over, .slice m.ra m.r.reads.length m.rc, .slice m.wa m.r.writes.length m.wc] 70) = W → Below w.heap.size w W ∧ W.cell? ⟨w.heap.size, 0, none⟩ = some (.int .i64 m.r.tx) ∧ W.cell? ⟨w.heap.size, 2, none⟩ = some (.int .i64 m.r.begun) ∧ W.cell? ⟨w.heap.size, 3, none⟩ = some (.int .i64 m.r.ended) ∧ W.cell? ⟨w.heap.size, 4, none⟩ = some (.bool m.r.com) ∧ W.cell? ⟨w.heap.size, 5, none⟩ = some (.bool m.r.over) ∧ W.cell? ⟨w.heap.size, 7, none⟩ = some (.slice m.wa m.r.writes.length m.wc) := by
  intro W hW
  have q : W.heap[w.heap.size]? = some (.cells #[.int .i64 m.r.tx, .int .i64 m.r.snap, .int .i64 m.r.begun, .int .i64 m.r.ended, .bool m.r.com, .bool m.r.over, .slice m.ra m.r.reads.length m.rc, .slice m.wa m.r.writes.length m.wc] 70 (0, 0)) := by rw [← hW]; exact heap_alloc_new _ _
  exact ⟨by rw [← hW]; exact alloc_below10 _ _, cell_of_row _ _ 0 _ _ _ q, cell_of_row _ _ 2 _ _ _ q, cell_of_row _ _ 3 _ _ _ q, cell_of_row _ _ 4 _ _ _ q, cell_of_row _ _ 5 _ _ _ q, cell_of_row _ _ 7 _ _ _ q⟩
theorem first_not10 {R a q d : Nat} {now : Int} (L : Lp10 R a q d c X X.rs now) (hm : ms.map (·.r) = X.rs) {i k : Nat} {x y : RunM} (hi : ms[i]? = some x) (hk : ms[k]? = some y) (hlt : i < k) (cx : x.r.com = true) (cy : y.r.com = true) (h1 : ¬ y.r.begun > x.r.ended) (h2 : ¬ x.r.begun > y.r.ended) : ∀ l ∈ x.r.writes, hasLk y.r.writes l = false := by
  intro l hl
  cases hh : hasLk y.r.writes l with
  | false => rfl
  | true =>
    exfalso
    have ex : X.rs[i]? = some x.r := by rw [← hm, List.getElem?_map, hi]; rfl
    have ey : X.rs[k]? = some y.r := by rw [← hm, List.getElem?_map, hk]; rfl
    rcases L.inv.first ex ey (by omega) cx cy hl (hasLk_is.1 hh) with h3 | h3 <;> omega
end
end Go.Proofs.YtknppiebncdjmaaGreat
