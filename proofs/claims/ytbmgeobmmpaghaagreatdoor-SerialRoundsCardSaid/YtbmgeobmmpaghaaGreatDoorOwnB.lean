/- Words for memory: a slice of bytes that the call itself made, and what it holds. -/
import Derived.Test.YtbmgeobmmpaghaaGreatDoorProg
import Derived.Test.YtbmgeobmmpaghaaGreatDoorMem
import Derived.Laws.AppendOwnNone
import Derived.Deep.AppendLies
import Derived.Maps.AppendAt
import Derived.ProofKit
import Derived.Lib.AppendStr
import Derived.Laws.CopyOwn
set_option linter.unusedVariables false
namespace Go.Proofs.YtbmgeobmmpaghaaGreatDoor
set_option maxRecDepth 100000
open Go.RowKit

theorem info_u8 : (Tryz.prog.info? 5).map (fun i => (i.zero, i.size, i.bytes)) = some (some (.int .u8 0), 1, 1) := by kernel_rfl

/-- The value v is a slice of bytes that holds zs and owns its row among the blocks from base on. -/
structure OB (base : Nat) (w : World) (v : Value) (zs : List Int) : Prop where
  own : w.ownsRow base 5 1 v zs.length (zs.map (Value.int .u8))
  byte : ∀ z ∈ zs, 0 ≤ z ∧ z ≤ 255

section
variable {base : Nat} {w w' : World} {v : Value} {zs : List Int}
theorem OB.form (h : OB base w v zs) : ∃ A c, v = .slice A zs.length c ∧ RB w A zs.length zs ∧ zs.length ≤ c ∧ c ≤ maxLen := by
  rcases h.own.2 with ⟨rfl, h0⟩ | ⟨g, cap, cur, rfl, _, hh, hc, hm, _, ht⟩
  · have hz : zs = [] := List.eq_nil_of_length_eq_zero h0
    subst hz
    exact ⟨none, 0, rfl, RB.empty w _, Nat.le_refl _, by simp [maxLen]⟩
  · refine ⟨_, cap, rfl, ⟨rfl, h.byte, fun hn => ⟨_, rfl, fun j hj => ?_⟩⟩, hc, hm⟩
    have hadd : (⟨g, 0, none⟩ : Addr).add j = ⟨g, j, none⟩ := by unfold Addr.add; split <;> simp_all
    rw [hadd]
    have := h.own.cells (g := g) rfl j (.int .u8 (zs.getD j 0)) (by simp [List.getD_eq_getElem?_getD, List.getElem?_eq_getElem hj])
    rw [hadd] at this
    exact this
theorem OB.nil (base : Nat) (w : World) : OB base w (.slice none 0 0) [] := ⟨World.ownsRow_nil _ _ _ _, by simp⟩
theorem OB.drew (h : OB base w v zs) : OB base w.drew v zs := ⟨h.own.drew, h.byte⟩
theorem OB.alloc (h : OB base w v zs) (o : Obj) : OB base (w.alloc o) v zs := ⟨h.own.alloc o, h.byte⟩
theorem OB.below (h : OB base w v zs) (hb : Below w.heap.size w w') : OB base w' v zs := by
  refine ⟨h.own.kept (row := none) ⟨hb.os, hb.tape, hb.output, hb.size, fun k hk _ => hb.block k hk⟩ ?_, h.byte⟩
  cases hv : v.ownBlock <;> simp
theorem OB.mono {base' : Nat} (h : OB base w v zs) (hb : base' ≤ base) : OB base' w v zs := by
  refine ⟨⟨h.own.1, ?_⟩, h.byte⟩
  rcases h.own.2 with h0 | ⟨g, cap, cur, hv, hg, r⟩
  · exact .inl h0
  · exact .inr ⟨g, cap, cur, hv, by omega, r⟩
theorem OB.keep {B : Nat} (h : OB base w v zs) (hb : Below B w w') (hB : ∀ k, v.ownBlock = some k → k < B) : OB base w' v zs := by
  refine ⟨⟨h.own.1, ?_⟩, h.byte⟩
  rcases h.own.2 with h0 | ⟨g, cap, cur, rfl, hg, hh, r⟩
  · exact .inl h0
  · exact .inr ⟨g, cap, cur, rfl, hg, (hb.block g (hB g rfl)).trans hh, r⟩
theorem OB.lt (h : OB base w v zs) : ∀ k, v.ownBlock = some k → base ≤ k ∧ k < w.heap.size := h.own.lt
theorem below_of_grown {row : Option Nat} (hg : w.grownBy w' row) (hbase : base ≤ w.heap.size) (hr : ∀ k, row = some k → base ≤ k) : Below base w w' :=
  (Below.refl base w).grown hg hbase hr
end

theorem ob_made (w : World) (n c : Nat) (hnc : n ≤ c) (hc : c ≤ 281474976710656) :
    OB w.heap.size (w.alloc (.cells (madeCells #[.int .u8 0] c) 5)) (.slice (some ⟨w.heap.size, 0, none⟩) n c) (List.replicate n 0) := by
  refine ⟨⟨by simp, .inr ⟨w.heap.size, c, _, by simp, Nat.le_refl _, heap_alloc_new w _, by simpa using hnc, by simp only [maxLen]; omega, by simp [size_madeCells], ?_⟩⟩, fun z hz => ?_⟩
  · rw [toList_madeCells_one]
    simp [List.take_replicate, Nat.min_eq_left hnc]
  · have := List.eq_of_mem_replicate hz
    omega

theorem ob_lit (w : World) (zs : List Int) (hb : ∀ z ∈ zs, 0 ≤ z ∧ z ≤ 255) (hl : zs.length ≤ 140737488355328) :
    OB w.heap.size (w.alloc (.cells (zs.map (Value.int .u8)).toArray 5)) (.slice (some ⟨w.heap.size, 0, none⟩) zs.length zs.length) zs := by
  refine ⟨⟨by simp, .inr ⟨w.heap.size, zs.length, _, rfl, Nat.le_refl _, heap_alloc_new w _, Nat.le_refl _, by simp only [maxLen]; omega, by simp, ?_⟩⟩, hb⟩
  rw [List.take_of_length_le (by simp)]

/-- Block g is just the bytes zs. -/
def Row (w : World) (g : Nat) (zs : List Int) : Prop := w.heap[g]? = some (.cells (zs.map (Value.int .u8)).toArray 5 (0, 0))
section
variable {w w' : World} {g : Nat} {zs : List Int}
theorem Row.lt (h : Row w g zs) : g < w.heap.size := (Array.getElem?_eq_some_iff.1 h).1
theorem Row.cell (h : Row w g zs) {j : Nat} (hj : j < zs.length) : w.cell? ⟨g, j, none⟩ = some (.int .u8 (zs.getD j 0)) := by
  rw [cell_of_row w g j _ 5 (0, 0) h]
  simp [List.getD_eq_getElem?_getD, List.getElem?_eq_getElem hj]
theorem Row.frozen (h : Row w g zs) (j : Nat) : w.frozen? ⟨g, j, none⟩ = false := by
  unfold Row at h
  simp [World.frozen?, h]
theorem Row.set_ (h : Row w g zs) (j : Nat) (z : Int) : Row (w.setCell ⟨g, j, none⟩ (.int .u8 z)) g (zs.set j z) := by
  unfold Row at h ⊢
  have h2 : ((zs.map (Value.int .u8)).toArray).setIfInBounds j (.int .u8 z) = ((zs.set j z).map (Value.int .u8)).toArray := by
    apply Array.ext'
    simp [List.map_set]
  simp [World.setCell, Array.getElem?_modify, h, h2]
theorem Row.drew (h : Row w g zs) : Row w.drew g zs := h
theorem Row.keep (h : Row w g zs) (hk : w'.heap[g]? = w.heap[g]?) : Row w' g zs := hk.trans h
theorem Row.below (h : Row w g zs) (hb : Below w.heap.size w w') : Row w' g zs := h.keep (hb.block g h.lt)
theorem Row.rb (h : Row w g zs) (hb : ∀ z ∈ zs, 0 ≤ z ∧ z ≤ 255) : RB w (some ⟨g, 0, none⟩) zs.length zs := RB.block hb h
theorem Row.ob (h : Row w g zs) (hb : ∀ z ∈ zs, 0 ≤ z ∧ z ≤ 255) (hl : zs.length ≤ 140737488355328) {base : Nat} (hg : base ≤ g) : OB base w (.slice (some ⟨g, 0, none⟩) zs.length zs.length) zs := by
  refine ⟨⟨by simp, .inr ⟨g, zs.length, _, rfl, hg, h, Nat.le_refl _, by simp only [maxLen]; omega, by simp, ?_⟩⟩, hb⟩
  rw [List.take_of_length_le (by simp)]
theorem row_made (w : World) (c : Nat) : Row (w.alloc (.cells (madeCells #[.int .u8 0] c) 5)) w.heap.size (List.replicate c 0) := by
  unfold Row
  rw [heap_alloc_new]
  congr 2
  apply Array.ext'
  rw [toList_madeCells_one]
  simp
end

theorem bytes_oneCell (zs : List Int) : ∀ u ∈ zs.map (Value.int .u8), u.oneCell' = true := ints_oneCell _ _

theorem run_append_nothing {P : Program} (w : World) {base e size n : Nat} {v : Value} {xs : List Value} (t ty : TypeId) (i : TypeInfo) (ht : P.underlying t = some (.slice e)) (hi : P.info? e = some i)
    (hown : w.ownsRow base e size v n xs) (c : Nat) : (Builtin.append_ #[t, t] ty #[v, .slice none 0 c]).run P w = .ok v w := by
  rcases hown.2 with ⟨hv, _⟩ | ⟨g, cap, cur, hv, _, _, hnc, _⟩ <;> subst hv
  · simp [Builtin.append_, run_underlying ht, sizeOf, typeInfo, hi, Builtin.lenOf, Builtin.firstCells]
  · simp [Builtin.append_, run_underlying ht, sizeOf, typeInfo, hi, Builtin.lenOf, Builtin.firstCells, hnc, storeCells]

/-- A text's bytes as numbers. -/
def strB (s : ByteArray) : List Int := s.data.toList.map fun b => (b.toNat : Int)
theorem strB_len (s : ByteArray) : (strB s).length = s.size := by
  rw [strB, List.length_map, Array.length_toList]; rfl
theorem strB_byte (s : ByteArray) : ∀ z ∈ strB s, 0 ≤ z ∧ z ≤ 255 := by
  intro z hz
  simp only [strB, List.mem_map] at hz
  obtain ⟨b, _, rfl⟩ := hz
  have := b.toNat_lt
  omega
theorem strB_cells (s : ByteArray) : (strB s).map (Value.int .u8) = Lib.strCells s := by
  simp [strB, Lib.strCells]

end Go.Proofs.YtbmgeobmmpaghaaGreatDoor
