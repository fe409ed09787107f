/- What changes in one block alone; a tree in memory. -/
import Derived.Test.YtlhpoliiojekeaaChanged
namespace Go.Proofs.Ytlhpoliiojekeaa
set_option maxRecDepth 100000
open Go.RowKit

/-- Nothing of what was there has changed but block T. -/
structure Xt (T : Nat) (w w' : World) : Prop where
  os : w'.os = w.os
  tape : w'.tape = w.tape
  output : w'.output = w.output
  size : w.heap.size ≤ w'.heap.size
  block : ∀ k, k < w.heap.size → k ≠ T → w'.heap[k]? = w.heap[k]?
theorem Gw.xt {w w' : World} (h : Gw w w') (T : Nat) : Xt T w w' := ⟨Below.os h, Below.tape h, Below.output h, Below.size h, fun k hk _ => Below.block h k hk⟩
theorem Xt.trans {T : Nat} {a b c : World} (h : Xt T a b) (k : Xt T b c) : Xt T a c :=
  ⟨k.os.trans h.os, k.tape.trans h.tape, k.output.trans h.output, Nat.le_trans h.size k.size, fun i hi hT => (k.block i (Nat.lt_of_lt_of_le hi h.size) hT).trans (h.block i hi hT)⟩
theorem Xt.set {w w' : World} (h : Gw w w') {T : Nat} (i : Nat) (v : Value) : Xt T w (w'.setCell ⟨T, i, none⟩ v) :=
  (h.xt T).trans ⟨rfl, rfl, rfl, by simp [World.setCell], fun k _ hT => Below.heap_setCell _ _ _ _ hT⟩
theorem Xt.below {w0 w w' : World} {T : Nat} (h0 : Below w0.heap.size w0 w) (h : Xt T w w') (hT : w0.heap.size ≤ T) : Below w0.heap.size w0 w' :=
  h0.trans ⟨h.os, h.tape, h.output, h.size, fun k hk => h.block k (Nat.lt_of_lt_of_le hk h0.size) (by omega)⟩
theorem Xt.cell {w w' : World} {T : Nat} (h : Xt T w w') {p : Addr} {v : Value} (hc : w.cell? p = some v) (hT : p.block ≠ T) : w'.cell? p = some v :=
  (World.cell?_of_block (w := w) (h.block p.block (World.block_lt_of_cell? w p hc) hT)).trans hc
theorem Xt.vb {w w' : World} {T : Nat} (h : Xt T w w') (hFo : Fo w T) {A : Option Addr} {n : Nat} {vs : List Value} (hv : VB w A n vs) : VB w' A n vs :=
  ⟨hv.len, hv.one, fun hn => by
    obtain ⟨ad, e, nt, hc⟩ := hv.cell hn
    have hne : ad.block ≠ T := fun e => hFo.nt (e ▸ nt)
    obtain ⟨u, hu⟩ : ∃ u, vs[0]? = some u := ⟨_, List.getElem?_eq_getElem (by rw [hv.len]; exact hn)⟩
    have hlt : ad.block < w.heap.size := by
      have := World.block_lt_of_cell? w _ (hc 0 u hu)
      rw [block_add] at this; exact this
    exact ⟨ad, e, nt.keep (h.block _ hlt hne), fun j u hj => h.cell (hc j u hj) (by rw [block_add]; exact hne)⟩⟩
theorem TrAt.nt {w : World} {T ord : Nat} {v : Value} (h : TrAt w T ord v) : Fo w T := ⟨_, _, _, h.row, by decide, by decide, by decide⟩
theorem Xt.row {w w' : World} {T : Nat} (h : Xt T w w') (hFo : Fo w T) {g : Nat} {cs : Array Value} {e : TypeId} {fr : Nat × Nat} (hr : w.heap[g]? = some (.cells cs e fr)) (he : e = 101 ∨ e = 109) : w'.heap[g]? = some (.cells cs e fr) :=
  (h.block g (Array.getElem?_eq_some_iff.1 hr).1 (fun e' => by
    obtain ⟨cs', e2, fr', h1, h2, h3, -⟩ := hFo
    rw [← e', hr] at h1
    simp only [Option.some.injEq, Obj.cells.injEq] at h1
    rcases he with he | he
    · exact h2 (h1.2.1 ▸ he)
    · exact h3 (h1.2.1 ▸ he))).trans hr
theorem LfAt.xt {w w' : World} {T g : Nat} {ps : List Pr} (hl : LfAt w g ps) (h : Xt T w w') (hFo : Fo w T) : LfAt w' g ps := by
  obtain ⟨A, c, B, e, h0, h1, h2, h3, h4⟩ := hl
  exact ⟨A, c, B, e, h.row hFo h0 (.inl rfl), h.vb hFo h1, h2, h.vb hFo h3, h4⟩
theorem NodeAt.xt {ord : Nat} {w w' : World} {T : Nat} (h : Xt T w w') (hFo : Fo w T) : ∀ {d : Nat} {v : Value} {ps : List Pr} {m : Nat}, NodeAt ord w d v ps m → NodeAt ord w' d v ps m
  | 0, _, _, _, ⟨g, h1, h2, h3⟩ => ⟨g, h1, h2.xt h hFo, h3⟩
  | _ + 1, _, _, _, ⟨g, ks, kids, h1, h2, h3, h4⟩ => by
    obtain ⟨A, c, B, e, q0, q1, q2, q3, q4⟩ := h3.row
    exact ⟨g, ks, kids, h1, h2, ⟨⟨A, c, B, e, h.row hFo q0 (.inr rfl), h.vb hFo q1, q2, h.vb hFo q3, q4⟩, h3.num, h3.all, fun x hx => NodeAt.xt h hFo (h3.is x hx), h3.tok⟩, h4⟩
/-- A tree in block T: its order and its pairs. -/
def TreeAt (w : World) (T ord : Nat) (ps : List Pr) : Prop :=
  ∃ v d m, TrAt w T ord v ∧ NodeAt ord w d v ps m ∧ Rises (keys ps) ∧ m ≤ most ord d ∧ (1 ≤ d → 2 ≤ m) ∧ 3 ≤ ord ∧ ord ≤ 64
theorem TreeAt.below {w w' : World} {T ord : Nat} {ps : List Pr} (h : TreeAt w T ord ps) (hb : Gw w w') : TreeAt w' T ord ps := by
  obtain ⟨v, d, m, h1, h2, h3⟩ := h
  exact ⟨v, d, m, h1.below hb, h2.gw hb, h3⟩
theorem TreeAt.lt {w : World} {T ord : Nat} {ps : List Pr} (h : TreeAt w T ord ps) : T < w.heap.size := by
  obtain ⟨v, d, m, h1, -⟩ := h
  exact (Array.getElem?_eq_some_iff.1 h1.row).1
theorem TreeAt.fo {w : World} {T ord : Nat} {ps : List Pr} (h : TreeAt w T ord ps) : Fo w T := by
  obtain ⟨v, d, m, h1, -⟩ := h
  exact h1.nt
theorem TreeAt.xt {w w' : World} {T U ord : Nat} {ps : List Pr} (h : TreeAt w T ord ps) (hx : Xt U w w') (hU : Fo w U) (hne : T ≠ U) : TreeAt w' T ord ps := by
  obtain ⟨v, d, m, h1, h2, h3⟩ := h
  exact ⟨v, d, m, ⟨(hx.block T (Array.getElem?_eq_some_iff.1 h1.row).1 hne).trans h1.row⟩, NodeAt.xt hx hU h2, h3⟩
theorem tr_set {w : World} {T ord : Nat} {v : Value} (h : TrAt w T ord v) (u : Value) : TrAt (w.setCell ⟨T, 1, none⟩ u) T ord u := by
  refine ⟨?_⟩
  simp [World.setCell, Array.getElem?_modify, h.row]
theorem TreeAt.set {w : World} {T ord : Nat} {v u : Value} {d m : Nat} {ps : List Pr} (h : TrAt w T ord v) (hn : NodeAt ord w d u ps m) (hr : Rises (keys ps)) (hm : m ≤ most ord d) (h2 : 1 ≤ d → 2 ≤ m) (ho : 3 ≤ ord) (ho2 : ord ≤ 64) : TreeAt (w.setCell ⟨T, 1, none⟩ u) T ord ps :=
  ⟨u, d, m, tr_set h u, NodeAt.xt (Xt.set (Gw.refl w) 1 u) h.nt hn, hr, hm, h2, ho, ho2⟩
end Go.Proofs.Ytlhpoliiojekeaa
