/- The walk of DiskLasts: true whatever comes in. -/
import Derived.Test.YtapjgancaldgaaaDLastsMath
namespace Go.Proofs.Ytapjgancaldgaaa
set_option maxRecDepth 100000
open Go.RowKit

/-- Where a law stands: the disk d holds S, its memory is the law's own. -/
structure LM (w wr : World) (d : Nat) (S : St) (F : Nat → Prop) : Prop where
  pd : PD F wr d S
  fs : ∀ j, F j → w.heap.size ≤ j ∧ j < wr.heap.size
  b : Below w.heap.size w wr
theorem LM.below {w wr wr' : World} {d : Nat} {S : St} {F : Nat → Prop} (h : LM w wr d S F) (hb : Below wr.heap.size wr wr') : LM w wr' d S F :=
  ⟨h.pd.below hb, fun j hj => ⟨(h.fs j hj).1, Nat.lt_of_lt_of_le (h.fs j hj).2 hb.size⟩, h.b.trans (hb.mono h.b.size)⟩
theorem LM.step {w wr wr' : World} {d : Nat} {S S' : St} {F : Nat → Prop} (h : LM w wr d S F) (hp : PD (Gr F wr) wr' d S') (ho : Out F wr wr') : LM w wr' d S' (fun j => Gr F wr j ∧ j < wr'.heap.size) :=
  ⟨hp.shut, fun j hj => ⟨by rcases hj.1 with h1 | h1; exact (h.fs j h1).1; exact Nat.le_trans h.b.size h1, hj.2⟩, h.b.trans (ho.below h.b.size (fun i hi hf => by have := (h.fs i hf).1; omega))⟩
theorem LM.drew {w wr : World} {d : Nat} {S : St} {F : Nat → Prop} (h : LM w wr d S F) : LM w wr.drew d S F := ⟨h.pd.drew, h.fs, h.b.drew⟩

theorem sync_free {S : St} (h1 : S.off = false) (h2 : S.plan = -1) : syncS S = ⟨layAll S.last S.pend (ones S.pend.length), [], false, -1, S.writes, wrap64 (S.syncs + 1)⟩ ∧ syncE S = 0 := by
  unfold syncS syncE spendS spendE
  simp [h1, h2]

end Go.Proofs.Ytapjgancaldgaaa
