/- Words for memory: a slice of values that the call itself made. -/
import Derived.Test.YtiappioofagpgaaDoorKeyValue
import Derived.Laws.AppendOwn
namespace Go.Proofs.YtiappioofagpgaaDoor
open Go.RowKit

theorem info_val : (Tryd.prog.info? 34).map (fun i => (i.zero, i.size, i.bytes)) = some (some (.agg #[.int .i64 0, .int .i64 0, .bool false, .string ⟨#[]⟩, .complex .f64 0 0]), 5, 56) := by kernel_rfl

def kvCells (v : KV) : List Value := [.int .i64 v.k, .int .i64 v.n, .bool v.y, .string (strOfNums v.b), .complex .f64 0 0]
def kvRow (l : List KV) : List Value := l.flatMap kvCells
theorem kvRow_len (l : List KV) : (kvRow l).length = l.length * 5 := by
  induction l with
  | nil => rfl
  | cons v l ih => simp only [kvRow, List.flatMap_cons, List.length_append, List.length_cons] at *; rw [ih]; simp [kvCells]; omega
theorem kvRow_snoc (l : List KV) (v : KV) : kvRow (l ++ [v]) = kvRow l ++ kvCells v := by simp [kvRow]
theorem kvRow_at (l : List KV) (i : Nat) (v : KV) (h : l[i]? = some v) (j : Nat) (hj : j < 5) : (kvRow l)[i * 5 + j]? = (kvCells v)[j]? := by
  induction l generalizing i with
  | nil => simp at h
  | cons x l ih =>
    have e : kvRow (x :: l) = kvCells x ++ kvRow l := by simp [kvRow]
    rw [e]
    cases i with
    | zero =>
      simp at h; subst h
      rw [List.getElem?_append_left (by simp [kvCells]; omega)]
      simp
    | succ i =>
      rw [List.getElem?_append_right (by simp [kvCells]; omega)]
      have : (i + 1) * 5 + j - (kvCells x).length = i * 5 + j := by simp [kvCells]; omega
      rw [this]
      exact ih i (by simpa using h)

/-- The value v is a slice of values that holds l and owns its row among the blocks from base on. -/
def OV (base : Nat) (w : World) (v : Value) (l : List KV) : Prop := w.ownsRow base 34 5 v l.length (kvRow l)

section
variable {base : Nat} {w w' : World} {v : Value} {l : List KV}
theorem OV.nil (base : Nat) (w : World) : OV base w (.slice none 0 0) [] := World.ownsRow_nil _ _ _ _
theorem OV.alloc (h : OV base w v l) (o : Obj) : OV base (w.alloc o) v l := World.ownsRow.alloc h o
theorem OV.drew (h : OV base w v l) : OV base w.drew v l := World.ownsRow.drew h
theorem OV.below (h : OV base w v l) (hb : Below w.heap.size w w') : OV base w' v l := by
  refine World.ownsRow.kept (row := none) h ⟨hb.os, hb.tape, hb.output, hb.size, fun k hk _ => hb.block k hk⟩ ?_
  cases hv : v.ownBlock <;> simp
theorem OV.mono {base' : Nat} (h : OV base w v l) (hb : base' ≤ base) : OV base' w v l := by
  refine ⟨h.1, ?_⟩
  rcases h.2 with h0 | ⟨g, cap, cur, hv, hg, r⟩
  · exact .inl h0
  · exact .inr ⟨g, cap, cur, hv, by omega, r⟩
theorem OV.form (h : OV base w v l) : ∃ A c, v = .slice A l.length c ∧ l.length ≤ c ∧ c ≤ maxLen := by
  rcases h.2 with ⟨rfl, h0⟩ | ⟨g, cap, cur, rfl, hg, hh, hc, hm, _, ht⟩
  · exact ⟨none, 0, by rw [h0], by omega, by simp [maxLen]⟩
  · exact ⟨_, cap, rfl, hc, hm⟩
/-- The place of value number i, and its cells. -/
theorem OV.at_ (h : OV base w v l) {i : Nat} {x : KV} (hi : l[i]? = some x) : ∃ g cap, v = .slice (some ⟨g, 0, none⟩) l.length cap ∧ l.length ≤ cap ∧
    w.cell? ⟨g, i * 5, none⟩ = some (.int .i64 x.k) ∧ w.cell? ⟨g, i * 5 + 1, none⟩ = some (.int .i64 x.n) ∧ w.cell? ⟨g, i * 5 + 2, none⟩ = some (.bool x.y) ∧ w.cell? ⟨g, i * 5 + 3, none⟩ = some (.string (strOfNums x.b)) ∧ w.cell? ⟨g, i * 5 + 4, none⟩ = some (.complex .f64 0 0) := by
  have hl : i < l.length := (List.getElem?_eq_some_iff.1 hi).1
  rcases h.2 with ⟨rfl, h0⟩ | ⟨g, cap, cur, hv, hg, hh, hc, hm, _, ht⟩
  · omega
  · have hcell : ∀ j, j < 5 → w.cell? ⟨g, i * 5 + j, none⟩ = (kvCells x)[j]? := by
      intro j hj
      have h1 := kvRow_at l i x hi j hj
      have h2 : (kvCells x)[j]? = some ((kvCells x)[j]'(by simp [kvCells]; omega)) := List.getElem?_eq_getElem _
      rw [h2] at h1 ⊢
      have h3 := World.ownsRow.cells (g := g) h (by rw [hv]; rfl) (i * 5 + j) _ h1
      have hadd : (⟨g, 0, none⟩ : Addr).add (i * 5 + j) = ⟨g, i * 5 + j, none⟩ := by unfold Addr.add; split <;> simp_all
      rw [hadd] at h3
      exact h3
    exact ⟨g, cap, hv, hc, by simpa [kvCells] using hcell 0 (by omega), by simpa [kvCells] using hcell 1 (by omega), by simpa [kvCells] using hcell 2 (by omega), by simpa [kvCells] using hcell 3 (by omega), by simpa [kvCells] using hcell 4 (by omega)⟩
end

/-- append of one value onto a slice that the call itself made. -/
theorem ov_append {w : World} {ops : Array Oper} {rest : List Oper} {o : Oper} {a : Act} {Q : Exit → Act → World → Prop} (hgd : o.guard = none) (s x : Operand)
    (ho : o.op = .call { callee := .builtin .append, args := #[s, x], argTypes := #[22, 22] })
    (base : Nat) (v : Value) (l : List KV) (hs : a.eval s = v) (hown : OV base w v l) (g c : Nat) (y : KV) (hx : a.eval x = .slice (some ⟨g, 0, none⟩) 1 c) (hg : w.heap[g]? = some (.cells (kvCells y).toArray 34 (0, 0)))
    (hsz : l.length ≤ 1000000) (hbase : base ≤ w.heap.size)
    (h : ∀ v' w', OV base w' v' (l ++ [y]) → Below base w w' → wpList Tryd.prog ops Q rest (a.put o.dst v') w') : wpList Tryd.prog ops Q (o :: rest) a w := by
  obtain ⟨i0, hi, hz0, hz1, hz2⟩ := info_parts info_val
  have hrow : ∀ k, v.ownBlock = some k → base ≤ k := fun k hk => (World.ownsRow.lt hown k hk).1
  refine wpList_append_own w hgd s x 22 ho base 34 i0 _ 5 56 Tryd.underlying22 hi hz0 hz1 hz2 rfl (by decide) v l.length _ hs hown ⟨g, 0, none⟩ 1 c (kvCells y) hx (by simp [kvCells]) ?_ (by simp [kvCells]; exact ⟨rfl, rfl, rfl, rfl, rfl⟩)
    (by simp only [maxLen]; omega) (by omega) hbase ?_
  · intro j u hu
    have hadd : (⟨g, 0, none⟩ : Addr).add j = ⟨g, j, none⟩ := by unfold Addr.add; split <;> simp_all
    rw [hadd, cell_of_row w g j _ 34 (0, 0) hg]
    simpa using hu
  · intro v' w' hown' hgr _
    refine h v' w' ?_ (below_of_grown hgr hbase hrow)
    unfold OV
    rw [kvRow_snoc, List.length_append]
    exact hown'
end Go.Proofs.YtiappioofagpgaaDoor
