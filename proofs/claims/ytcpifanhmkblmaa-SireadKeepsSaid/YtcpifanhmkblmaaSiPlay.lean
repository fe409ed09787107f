/- Layer 9: what the laws' loops keep. -/
import Derived.Test.YtcpifanhmkblmaaSiLast
import Derived.Test.YtcpifanhmkblmaaJBM
namespace Go.Proofs.Ytcpifanhmkblmaa
set_option maxRecDepth 100000
set_option maxRecDepth 100000
open Go.RowKit

theorem cap_nat {a : Int} (h : ¬ capP a = false) : ∃ m : Nat, a = (m : Int) ∧ 1 ≤ m ∧ m ≤ 65536 := by
  unfold capP at h
  simp only [Bool.and_eq_false_iff, decide_eq_false_iff_not, not_or, Decidable.not_not] at h
  exact ⟨a.toNat, by omega, by omega, by omega⟩
/-- The numbers of transactions are int64s. -/
def WfL (L : List Nt) : Prop := ∀ n ∈ L, (Lit.int .i64 n.1).wf = true
theorem WfL.nil : WfL [] := fun n hn => by cases hn
theorem WfL.note {most : Nat} {L : List Nt} (h : WfL L) (hi : Inv9 most L) {t : Int} (x : Rd) (ht : (Lit.int .i64 t).wf = true) : WfL (noteP most L t x).2 := fun m hm => by
  rcases (note_keeps hi t x).2.2.1 m hm with ⟨e, -⟩ | ⟨n, hn, e⟩
  · rw [e]; exact ht
  · rw [← e]; exact h n hn
theorem WfL.drop {L : List Nt} (h : WfL L) (t : Int) : WfL (if t < 1 then L else dropP L t) := by
  by_cases ht : t < 1
  · rw [if_pos ht]; exact h
  · rw [if_neg ht]; exact fun n hn => h n (List.mem_filter.1 hn).1
/-- The box of an operation. -/
def OpAt (W : World) (bx : Nat) (o : OpS) : Prop := W.heap[bx]? = some (.cells #[.int .i64 o.kind, .int .i64 o.tx, .string o.x.tb, .int .i64 o.x.kd, .string o.x.lo, .string o.x.hi, .string o.key] 33 (0, 0))
def OpC (W : World) (bx : Nat) (tx : Int) (tb : ByteArray) (kd : Int) (lo hi key : ByteArray) : Prop :=
  W.cell? ⟨bx, 1, none⟩ = some (.int .i64 tx) ∧ W.cell? ⟨bx, 2, none⟩ = some (.string tb) ∧ W.cell? ⟨bx, 3, none⟩ = some (.int .i64 kd) ∧ W.cell? ⟨bx, 4, none⟩ = some (.string lo) ∧ W.cell? ⟨bx, 5, none⟩ = some (.string hi) ∧ W.cell? ⟨bx, 6, none⟩ = some (.string key)
theorem OpAt.kind {W : World} {bx : Nat} {o : OpS} (h : OpAt W bx o) : W.cell? ⟨bx, 0, none⟩ = some (.int .i64 o.kind) := cell_of_row _ _ 0 _ _ _ h
theorem OpAt.cells {W : World} {bx : Nat} {o : OpS} (h : OpAt W bx o) : OpC W bx o.tx o.x.tb o.x.kd o.x.lo o.x.hi o.key :=
  ⟨cell_of_row _ _ 1 _ _ _ h, cell_of_row _ _ 2 _ _ _ h, cell_of_row _ _ 3 _ _ _ h, cell_of_row _ _ 4 _ _ _ h, cell_of_row _ _ 5 _ _ _ h, cell_of_row _ _ 6 _ _ _ h⟩
theorem OpAt.new (W : World) (o : OpS) : OpAt (W.alloc (.cells #[.int .i64 o.kind, .int .i64 o.tx, .string o.x.tb, .int .i64 o.x.kd, .string o.x.lo, .string o.x.hi, .string o.key] 33)) W.heap.size o := heap_alloc_new _ _
theorem OpAt.lt {W : World} {bx : Nat} {o : OpS} (h : OpAt W bx o) : bx < W.heap.size := (Array.getElem?_eq_some_iff.1 h).1
theorem OpAt.out {F : Nat → Prop} {W W' : World} {bx : Nat} {o : OpS} (h : OpAt W bx o) (g : Out F W W') (hF : ¬ F bx) : OpAt W' bx o := (g.block bx h.lt hF).trans h
theorem OpAt.below {W W' : World} {bx : Nat} {o : OpS} (h : OpAt W bx o) (g : Below W.heap.size W W') : OpAt W' bx o := (g.block bx h.lt).trans h
/-- Between two rounds: both sides' notes, alike. -/
structure Run9 (w0 w : World) (G : Nat → Prop) (r b most : Nat) (L : List Nt) : Prop where
  two : Two9 M9 w0 w G r b most L L
  wf : WfL L
theorem Run9.below {w0 w w' : World} {G : Nat → Prop} {r b most : Nat} {L : List Nt} (h : Run9 w0 w G r b most L) (g : Below w.heap.size w w') : Run9 w0 w' G r b most L := ⟨h.two.below api9 g, h.wf⟩
/-- The box of an operation is nobody's block. -/
theorem Run9.box {w0 w : World} {G : Nat → Prop} {r b most : Nat} {L : List Nt} (h : Run9 w0 w G r b most L) : ¬ G w.heap.size ∧ b ≠ w.heap.size :=
  ⟨fun hg => by have := api9.lt h.two.m _ hg; omega, by have := h.two.n.lt; omega⟩
end Go.Proofs.Ytcpifanhmkblmaa
