import Derived.Test.YtknppiebncdjmaaGreatJBO
import Derived.Test.YtknppiebncdjmaaGreatSsSkw
import Derived.Test.YtknppiebncdjmaaGreatJBI
/- Layer 10: a manager of a law's own: its calls, from state to state. -/
set_option linter.unusedVariables false
namespace Go.Proofs.YtknppiebncdjmaaGreat
set_option maxRecDepth 100000
set_option maxRecDepth 100000
open Go.RowKit

/-- The manager in block b, in blocks behind those of w0. -/
def SkIs (w0 : World) (c : Cp10) (b : Nat) (S : St10) (w : World) : Prop := ∃ G K, M10 w G K b c S ∧ (∀ k, G k → w0.heap.size ≤ k) ∧ (∀ k, K k → w0.heap.size ≤ k) ∧ Below w0.heap.size w0 w
section
variable {w0 w w' : World} {c : Cp10} {b : Nat} {S S' : St10}
theorem SkIs.bel (h : SkIs w0 c b S w) : Below w0.heap.size w0 w := by obtain ⟨G, K, m, g, k, z⟩ := h; exact z
theorem SkIs.gw (h : SkIs w0 c b S w) (g : Below w.heap.size w w') : SkIs w0 c b S w' := by
  obtain ⟨G, K, m, hg, hk, z⟩ := h
  exact ⟨G, K, m.below g, hg, hk, below_next z g⟩
theorem SkIs.left {G K : Nat → Prop} (hg : ∀ k, G k → w0.heap.size ≤ k) (hk : ∀ k, K k → w0.heap.size ≤ k) (z : Below w0.heap.size w0 w) (l : Left10 w w' G K b c S') : SkIs w0 c b S' w' := by
  obtain ⟨G', K', m, g1, k1, z1⟩ := l.m z.size hg hk
  exact ⟨G', K', m, g1, k1, z.trans z1⟩
theorem SkIs.begin (h : SkIs w0 c b S w) (hb : Bd10 S) {x s e : Int} (hq : begin10 c S = ((x, s, e), S')) :
    Calls Tryz.prog 15 #[.pointer (some ⟨b, 0, none⟩)] w fun r w' => r = .returned (.tuple #[.int .i64 x, .int .i64 s, .int .i64 e]) ∧ SkIs w0 c b S' w' := by
  obtain ⟨G, K, m, hg, hk, z⟩ := h
  have := w10Begin m hb
  rw [hq] at this
  exact this.mono fun r w' ⟨h1, l⟩ => ⟨h1, SkIs.left hg hk z l⟩
theorem SkIs.read (h : SkIs w0 c b S w) (hb : Bd10 S) {tx : Int} (hx : (Lit.int .i64 tx).wf = true) {l1 l2 : ByteArray} (hl : Sz2 (l1, l2)) {e : Int} (hq : read10 c S tx (l1, l2) = (e, S')) :
    Calls Tryz.prog 31 #[.pointer (some ⟨b, 0, none⟩), .int .i64 tx, .agg #[.string l1, .string l2]] w fun r w' => r = .returned (.int .i64 e) ∧ SkIs w0 c b S' w' := by
  obtain ⟨G, K, m, hg, hk, z⟩ := h
  have := w10Read m hb hx hl
  rw [hq] at this
  exact this.mono fun r w' ⟨h1, l⟩ => ⟨h1, SkIs.left hg hk z l⟩
theorem SkIs.write (h : SkIs w0 c b S w) (hb : Bd10 S) {tx : Int} (hx : (Lit.int .i64 tx).wf = true) {l1 l2 : ByteArray} (hl : Sz2 (l1, l2)) (last : Int) {e : Int} (hq : write10 c S tx (l1, l2) last = (e, S')) :
    Calls Tryz.prog 16 #[.pointer (some ⟨b, 0, none⟩), .int .i64 tx, .agg #[.string l1, .string l2], .int .i64 last] w fun r w' => r = .returned (.int .i64 e) ∧ SkIs w0 c b S' w' := by
  obtain ⟨G, K, m, hg, hk, z⟩ := h
  have := w10Write m hb hx hl last
  rw [hq] at this
  exact this.mono fun r w' ⟨h1, l⟩ => ⟨h1, SkIs.left hg hk z l⟩
theorem SkIs.commit (h : SkIs w0 c b S w) (hb : Bd10 S) {tx : Int} (hx : (Lit.int .i64 tx).wf = true) {n e : Int} (hq : commit10 c S tx = ((n, e), S')) :
    Calls Tryz.prog 32 #[.pointer (some ⟨b, 0, none⟩), .int .i64 tx] w fun r w' => r = .returned (.tuple #[.int .i64 n, .int .i64 e]) ∧ SkIs w0 c b S' w' := by
  obtain ⟨G, K, m, hg, hk, z⟩ := h
  have := w10Commit m hb hx
  rw [hq] at this
  exact this.mono fun r w' ⟨h1, l⟩ => ⟨h1, SkIs.left hg hk z l⟩
end
theorem pair_eq {α β : Type} {p : α × β} {a : α} (h : p.1 = a) : p = (a, p.2) := by rw [← h]
theorem bd_small {S : St10} (h1 : S.next ≤ 2) (h2 : S.last ≤ 5) : Bd10 S := ⟨by omega, by omega⟩
end Go.Proofs.YtknppiebncdjmaaGreat
