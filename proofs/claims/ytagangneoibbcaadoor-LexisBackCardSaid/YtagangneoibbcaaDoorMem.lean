/- Words for memory that the proofs over package wire share: a slice of bytes that reads as a list of numbers; no program is named here. -/
import Derived.WalkKit
import Derived.WalkSpells
import Derived.Lib.Hide
import Derived.Handy
import Derived.Deep.Draws
set_option linter.unusedVariables false
namespace Go.Proofs.YtagangneoibbcaaDoor
set_option maxRecDepth 100000
open Go.RowKit

theorem block_add (a : Addr) (n : Nat) : (a.add n).block = a.block := by unfold Addr.add; split <;> rfl
theorem add_add (a : Addr) (i j : Nat) : (a.add i).add j = a.add (i + j) := by
  unfold Addr.add
  by_cases hi : i = 0 <;> by_cases hj : j = 0 <;> simp [hi, hj, Nat.add_assoc]

/-- The slice of address A and length n reads as the bytes zs. -/
structure RB (w : World) (A : Option Addr) (n : Nat) (zs : List Int) : Prop where
  len : zs.length = n
  byte : ∀ z ∈ zs, 0 ≤ z ∧ z ≤ 255
  cell : 0 < n → ∃ ad, A = some ad ∧ ∀ j, j < n → w.cell? (ad.add j) = some (.int .u8 (zs.getD j 0))

section
variable {w w' : World} {A : Option Addr} {n : Nat} {zs : List Int}
theorem RB.getD (h : RB w A n zs) (j : Nat) : 0 ≤ zs.getD j 0 ∧ zs.getD j 0 ≤ 255 := by
  by_cases hj : j < zs.length
  · have := h.byte (zs.getD j 0) (by simp [List.getD_eq_getElem?_getD, List.getElem?_eq_getElem hj])
    exact this
  · simp [List.getD_eq_getElem?_getD, List.getElem?_eq_none (by omega : zs.length ≤ j)]
theorem RB.at_ {k : Nat} (h : RB w A n zs) (hk : k < n) : ∃ ad, A = some ad ∧ w.cell? (ad.add k) = some (.int .u8 (zs.getD k 0)) := by
  obtain ⟨ad, e, hc⟩ := h.cell (by omega)
  exact ⟨ad, e, hc k hk⟩
theorem RB.keep (h : RB w A n zs) (hk : ∀ (p : Addr) v, w.cell? p = some v → w'.cell? p = some v) : RB w' A n zs :=
  ⟨h.len, h.byte, fun hn => by
    obtain ⟨ad, e, hc⟩ := h.cell hn
    exact ⟨ad, e, fun j hj => hk _ _ (hc j hj)⟩⟩
theorem RB.below {B : Nat} (h : RB w A n zs) (hb : Below B w w') (hB : w.heap.size ≤ B) : RB w' A n zs :=
  h.keep fun p _ hp => (hb.cell (Nat.lt_of_lt_of_le (World.block_lt_of_cell? w p hp) hB)).trans hp
theorem RB.below' (h : RB w A n zs) (hb : Below w.heap.size w w') : RB w' A n zs := h.below hb (Nat.le_refl _)
theorem RB.drew (h : RB w A n zs) : RB w.drew A n zs := ⟨h.len, h.byte, h.cell⟩
theorem RB.drewN (h : RB w A n zs) (k : Nat) : RB (w.drewN k) A n zs := ⟨h.len, h.byte, h.cell⟩
theorem RB.cut {k : Nat} (h : RB w A n zs) (hk : k ≤ n) (cap : Nat) (hc : n ≤ cap) :
    RB w (if cap = k then A else A.map (·.add k)) (n - k) (zs.drop k) := by
  refine ⟨by rw [List.length_drop, h.len], fun z hz => h.byte z (List.mem_of_mem_drop hz), fun hn => ?_⟩
  obtain ⟨ad, rfl, hcell⟩ := h.cell (by omega)
  rw [if_neg (by omega)]
  refine ⟨ad.add k, rfl, fun j hj => ?_⟩
  rw [add_add, hcell (k + j) (by omega)]
  simp [List.getD_eq_getElem?_getD, List.getElem?_drop]
theorem RB.take {k : Nat} (h : RB w A n zs) (hk : k ≤ n) : RB w A k (zs.take k) := by
  refine ⟨by rw [List.length_take, h.len]; omega, fun z hz => h.byte z (List.mem_of_mem_take hz), fun hn => ?_⟩
  obtain ⟨ad, rfl, hcell⟩ := h.cell (by omega)
  refine ⟨ad, rfl, fun j hj => ?_⟩
  rw [hcell j (by omega)]
  simp [List.getD_eq_getElem?_getD, hj]
end

theorem RB.block {w : World} {g : Nat} {zs : List Int} {e : TypeId} {fr : Nat × Nat} (hb : ∀ z ∈ zs, 0 ≤ z ∧ z ≤ 255) (h : w.heap[g]? = some (.cells (zs.map (Value.int .u8)).toArray e fr)) :
    RB w (some ⟨g, 0, none⟩) zs.length zs := by
  refine ⟨rfl, hb, fun _ => ⟨_, rfl, fun j hj => ?_⟩⟩
  have hadd : (⟨g, 0, none⟩ : Addr).add j = ⟨g, j, none⟩ := by unfold Addr.add; split <;> simp_all
  rw [hadd, cell_of_row w g j _ e fr h]
  simp [List.getD_eq_getElem?_getD, List.getElem?_eq_getElem hj]
theorem RB.new (w : World) {zs : List Int} {e : TypeId} {fr : Nat × Nat} (hb : ∀ z ∈ zs, 0 ≤ z ∧ z ≤ 255) :
    RB (w.alloc (.cells (zs.map (Value.int .u8)).toArray e fr)) (some ⟨w.heap.size, 0, none⟩) zs.length zs :=
  RB.block hb (heap_alloc_new w _)
theorem below_next {w w1 w2 : World} (h : Below w.heap.size w w1) (h2 : Below w1.heap.size w1 w2) : Below w.heap.size w w2 := h.trans (h2.mono h.size)
theorem keep_below {w w' : World} {p : Addr} {v : Value} (h : w.cell? p = some v) (hb : Below w.heap.size w w') : w'.cell? p = some v :=
  (hb.cell (World.block_lt_of_cell? w p h)).trans h
theorem RB.empty (w : World) (A : Option Addr) : RB w A 0 [] := ⟨rfl, by simp, fun h => absurd h (by omega)⟩

end Go.Proofs.YtagangneoibbcaaDoor
