import Derived.WalkKit
import Derived.WalkSpells
import Derived.Lib.Hide
import Derived.Handy
import Derived.Deep.Draws
import Derived.Test.YtcpifanhmkblmaaProg
import Derived.Laws.AppendOwnNone
import Derived.Deep.AppendLies
import Derived.Maps.AppendAt
import Derived.ProofKit
import Derived.Lib.AppendStr
import Derived.Laws.CopyOwn
/- Words for memory that the proofs over package wire share: a slice of bytes that reads as a list of numbers; no program is named here. -/
namespace Go.Proofs.Ytcpifanhmkblmaa
set_option maxRecDepth 100000
open Go.RowKit

theorem block_add (a : Addr) (n : Nat) : (a.add n).block = a.block := by unfold Addr.add; split <;> rfl
theorem add_add (a : Addr) (i j : Nat) : (a.add i).add j = a.add (i + j) := by
  unfold Addr.add
  by_cases hi : i = 0 <;> by_cases hj : j = 0 <;> simp [hi, hj, Nat.add_assoc]

/-- The slice of address A and length n reads as the bytes zs. -/
structure RB (w : World) (A : Option Addr) (n : Nat) (zs : List Int) : Prop where
  len : zs.length = n
  byte : ∀ z ∈ zs, 0 ≤ z ∧ z ≤ 255
  cell : 0 < n → ∃ ad, A = some ad ∧ ∀ j, j < n → w.cell? (ad.add j) = some (.int .u8 (zs.getD j 0))

section
variable {w w' : World} {A : Option Addr} {n : Nat} {zs : List Int}
theorem RB.getD (h : RB w A n zs) (j : Nat) : 0 ≤ zs.getD j 0 ∧ zs.getD j 0 ≤ 255 := by
  by_cases hj : j < zs.length
  · have := h.byte (zs.getD j 0) (by simp [List.getD_eq_getElem?_getD, List.getElem?_eq_getElem hj])
    exact this
  · simp [List.getD_eq_getElem?_getD, List.getElem?_eq_none (by omega : zs.length ≤ j)]
theorem RB.at_ {k : Nat} (h : RB w A n zs) (hk : k < n) : ∃ ad, A = some ad ∧ w.cell? (ad.add k) = some (.int .u8 (zs.getD k 0)) := by
  obtain ⟨ad, e, hc⟩ := h.cell (by omega)
  exact ⟨ad, e, hc k hk⟩
theorem RB.keep (h : RB w A n zs) (hk : ∀ (p : Addr) v, w.cell? p = some v → w'.cell? p = some v) : RB w' A n zs :=
  ⟨h.len, h.byte, fun hn => by
    obtain ⟨ad, e, hc⟩ := h.cell hn
    exact ⟨ad, e, fun j hj => hk _ _ (hc j hj)⟩⟩
theorem RB.below {B : Nat} (h : RB w A n zs) (hb : Below B w w') (hB : w.heap.size ≤ B) : RB w' A n zs :=
  h.keep fun p _ hp => (hb.cell (Nat.lt_of_lt_of_le (World.block_lt_of_cell? w p hp) hB)).trans hp
theorem RB.below' (h : RB w A n zs) (hb : Below w.heap.size w w') : RB w' A n zs := h.below hb (Nat.le_refl _)
theorem RB.drew (h : RB w A n zs) : RB w.drew A n zs := ⟨h.len, h.byte, h.cell⟩
theorem RB.drewN (h : RB w A n zs) (k : Nat) : RB (w.drewN k) A n zs := ⟨h.len, h.byte, h.cell⟩
theorem RB.cut {k : Nat} (h : RB w A n zs) (hk : k ≤ n) (cap : Nat) (hc : n ≤ cap) :
    RB w (if cap = k then A else A.map (·.add k)) (n - k) (zs.drop k) := by
  refine ⟨by rw [List.length_drop, h.len], fun z hz => h.byte z (List.mem_of_mem_drop hz), fun hn => ?_⟩
  obtain ⟨ad, rfl, hcell⟩ := h.cell (by omega)
  rw [if_neg (by omega)]
  refine ⟨ad.add k, rfl, fun j hj => ?_⟩
  rw [add_add, hcell (k + j) (by omega)]
  simp [List.getD_eq_getElem?_getD, List.getElem?_drop]
theorem RB.take {k : Nat} (h : RB w A n zs) (hk : k ≤ n) : RB w A k (zs.take k) := by
  refine ⟨by rw [List.length_take, h.len]; omega, fun z hz => h.byte z (List.mem_of_mem_take hz), fun hn => ?_⟩
  obtain ⟨ad, rfl, hcell⟩ := h.cell (by omega)
  refine ⟨ad, rfl, fun j hj => ?_⟩
  rw [hcell j (by omega)]
  simp [List.getD_eq_getElem?_getD, hj]
end

theorem RB.block {w : World} {g : Nat} {zs : List Int} {e : TypeId} {fr : Nat × Nat} (hb : ∀ z ∈ zs, 0 ≤ z ∧ z ≤ 255) (h : w.heap[g]? = some (.cells (zs.map (Value.int .u8)).toArray e fr)) :
    RB w (some ⟨g, 0, none⟩) zs.length zs := by
  refine ⟨rfl, hb, fun _ => ⟨_, rfl, fun j hj => ?_⟩⟩
  have hadd : (⟨g, 0, none⟩ : Addr).add j = ⟨g, j, none⟩ := by unfold Addr.add; split <;> simp_all
  rw [hadd, cell_of_row w g j _ e fr h]
  simp [List.getD_eq_getElem?_getD, List.getElem?_eq_getElem hj]
theorem RB.new (w : World) {zs : List Int} {e : TypeId} {fr : Nat × Nat} (hb : ∀ z ∈ zs, 0 ≤ z ∧ z ≤ 255) :
    RB (w.alloc (.cells (zs.map (Value.int .u8)).toArray e fr)) (some ⟨w.heap.size, 0, none⟩) zs.length zs :=
  RB.block hb (heap_alloc_new w _)
theorem below_next {w w1 w2 : World} (h : Below w.heap.size w w1) (h2 : Below w1.heap.size w1 w2) : Below w.heap.size w w2 := h.trans (h2.mono h.size)
theorem keep_below {w w' : World} {p : Addr} {v : Value} (h : w.cell? p = some v) (hb : Below w.heap.size w w') : w'.cell? p = some v :=
  (hb.cell (World.block_lt_of_cell? w p h)).trans h
theorem RB.empty (w : World) (A : Option Addr) : RB w A 0 [] := ⟨rfl, by simp, fun h => absurd h (by omega)⟩

end Go.Proofs.Ytcpifanhmkblmaa

/- Words for memory: a slice of bytes that the call itself made, and what it holds. -/
namespace Go.Proofs.Ytcpifanhmkblmaa
set_option maxRecDepth 100000
open Go.RowKit

theorem info_u8 : (Try.prog.info? 5).map (fun i => (i.zero, i.size, i.bytes)) = some (some (.int .u8 0), 1, 1) := by kernel_rfl

/-- The value v is a slice of bytes that holds zs and owns its row among the blocks from base on. -/
structure OB (base : Nat) (w : World) (v : Value) (zs : List Int) : Prop where
  own : w.ownsRow base 5 1 v zs.length (zs.map (Value.int .u8))
  byte : ∀ z ∈ zs, 0 ≤ z ∧ z ≤ 255

section
variable {base : Nat} {w w' : World} {v : Value} {zs : List Int}
theorem OB.form (h : OB base w v zs) : ∃ A c, v = .slice A zs.length c ∧ RB w A zs.length zs ∧ zs.length ≤ c ∧ c ≤ maxLen := by
  rcases h.own.2 with ⟨rfl, h0⟩ | ⟨g, cap, cur, rfl, _, hh, hc, hm, _, ht⟩
  · have hz : zs = [] := List.eq_nil_of_length_eq_zero h0
    subst hz
    exact ⟨none, 0, rfl, RB.empty w _, Nat.le_refl _, by simp [maxLen]⟩
  · refine ⟨_, cap, rfl, ⟨rfl, h.byte, fun hn => ⟨_, rfl, fun j hj => ?_⟩⟩, hc, hm⟩
    have hadd : (⟨g, 0, none⟩ : Addr).add j = ⟨g, j, none⟩ := by unfold Addr.add; split <;> simp_all
    rw [hadd]
    have := h.own.cells (g := g) rfl j (.int .u8 (zs.getD j 0)) (by simp [List.getD_eq_getElem?_getD, List.getElem?_eq_getElem hj])
    rw [hadd] at this
    exact this
theorem OB.nil (base : Nat) (w : World) : OB base w (.slice none 0 0) [] := ⟨World.ownsRow_nil _ _ _ _, by simp⟩
theorem OB.drew (h : OB base w v zs) : OB base w.drew v zs := ⟨h.own.drew, h.byte⟩
theorem OB.alloc (h : OB base w v zs) (o : Obj) : OB base (w.alloc o) v zs := ⟨h.own.alloc o, h.byte⟩
theorem OB.below (h : OB base w v zs) (hb : Below w.heap.size w w') : OB base w' v zs := by
  refine ⟨h.own.kept (row := none) ⟨hb.os, hb.tape, hb.output, hb.size, fun k hk _ => hb.block k hk⟩ ?_, h.byte⟩
  cases hv : v.ownBlock <;> simp
theorem OB.mono {base' : Nat} (h : OB base w v zs) (hb : base' ≤ base) : OB base' w v zs := by
  refine ⟨⟨h.own.1, ?_⟩, h.byte⟩
  rcases h.own.2 with h0 | ⟨g, cap, cur, hv, hg, r⟩
  · exact .inl h0
  · exact .inr ⟨g, cap, cur, hv, by omega, r⟩
theorem OB.keep {B : Nat} (h : OB base w v zs) (hb : Below B w w') (hB : ∀ k, v.ownBlock = some k → k < B) : OB base w' v zs := by
  refine ⟨⟨h.own.1, ?_⟩, h.byte⟩
  rcases h.own.2 with h0 | ⟨g, cap, cur, rfl, hg, hh, r⟩
  · exact .inl h0
  · exact .inr ⟨g, cap, cur, rfl, hg, (hb.block g (hB g rfl)).trans hh, r⟩
theorem OB.lt (h : OB base w v zs) : ∀ k, v.ownBlock = some k → base ≤ k ∧ k < w.heap.size := h.own.lt
theorem below_of_grown {row : Option Nat} (hg : w.grownBy w' row) (hbase : base ≤ w.heap.size) (hr : ∀ k, row = some k → base ≤ k) : Below base w w' :=
  (Below.refl base w).grown hg hbase hr
end

theorem ob_made (w : World) (n c : Nat) (hnc : n ≤ c) (hc : c ≤ 281474976710656) :
    OB w.heap.size (w.alloc (.cells (madeCells #[.int .u8 0] c) 5)) (.slice (some ⟨w.heap.size, 0, none⟩) n c) (List.replicate n 0) := by
  refine ⟨⟨by simp, .inr ⟨w.heap.size, c, _, by simp, Nat.le_refl _, heap_alloc_new w _, by simpa using hnc, by simp only [maxLen]; omega, by simp [size_madeCells], ?_⟩⟩, fun z hz => ?_⟩
  · rw [toList_madeCells_one]
    simp [List.take_replicate, Nat.min_eq_left hnc]
  · have := List.eq_of_mem_replicate hz
    omega

theorem ob_lit (w : World) (zs : List Int) (hb : ∀ z ∈ zs, 0 ≤ z ∧ z ≤ 255) (hl : zs.length ≤ 140737488355328) :
    OB w.heap.size (w.alloc (.cells (zs.map (Value.int .u8)).toArray 5)) (.slice (some ⟨w.heap.size, 0, none⟩) zs.length zs.length) zs := by
  refine ⟨⟨by simp, .inr ⟨w.heap.size, zs.length, _, rfl, Nat.le_refl _, heap_alloc_new w _, Nat.le_refl _, by simp only [maxLen]; omega, by simp, ?_⟩⟩, hb⟩
  rw [List.take_of_length_le (by simp)]

/-- Block g is just the bytes zs. -/
def Row (w : World) (g : Nat) (zs : List Int) : Prop := w.heap[g]? = some (.cells (zs.map (Value.int .u8)).toArray 5 (0, 0))
section
variable {w w' : World} {g : Nat} {zs : List Int}
theorem Row.lt (h : Row w g zs) : g < w.heap.size := (Array.getElem?_eq_some_iff.1 h).1
theorem Row.cell (h : Row w g zs) {j : Nat} (hj : j < zs.length) : w.cell? ⟨g, j, none⟩ = some (.int .u8 (zs.getD j 0)) := by
  rw [cell_of_row w g j _ 5 (0, 0) h]
  simp [List.getD_eq_getElem?_getD, List.getElem?_eq_getElem hj]
theorem Row.frozen (h : Row w g zs) (j : Nat) : w.frozen? ⟨g, j, none⟩ = false := by
  unfold Row at h
  simp [World.frozen?, h]
theorem Row.set_ (h : Row w g zs) (j : Nat) (z : Int) : Row (w.setCell ⟨g, j, none⟩ (.int .u8 z)) g (zs.set j z) := by
  unfold Row at h ⊢
  have h2 : ((zs.map (Value.int .u8)).toArray).setIfInBounds j (.int .u8 z) = ((zs.set j z).map (Value.int .u8)).toArray := by
    apply Array.ext'
    simp [List.map_set]
  simp [World.setCell, Array.getElem?_modify, h, h2]
theorem Row.drew (h : Row w g zs) : Row w.drew g zs := h
theorem Row.keep (h : Row w g zs) (hk : w'.heap[g]? = w.heap[g]?) : Row w' g zs := hk.trans h
theorem Row.below (h : Row w g zs) (hb : Below w.heap.size w w') : Row w' g zs := h.keep (hb.block g h.lt)
theorem Row.rb (h : Row w g zs) (hb : ∀ z ∈ zs, 0 ≤ z ∧ z ≤ 255) : RB w (some ⟨g, 0, none⟩) zs.length zs := RB.block hb h
theorem Row.ob (h : Row w g zs) (hb : ∀ z ∈ zs, 0 ≤ z ∧ z ≤ 255) (hl : zs.length ≤ 140737488355328) {base : Nat} (hg : base ≤ g) : OB base w (.slice (some ⟨g, 0, none⟩) zs.length zs.length) zs := by
  refine ⟨⟨by simp, .inr ⟨g, zs.length, _, rfl, hg, h, Nat.le_refl _, by simp only [maxLen]; omega, by simp, ?_⟩⟩, hb⟩
  rw [List.take_of_length_le (by simp)]
theorem row_made (w : World) (c : Nat) : Row (w.alloc (.cells (madeCells #[.int .u8 0] c) 5)) w.heap.size (List.replicate c 0) := by
  unfold Row
  rw [heap_alloc_new]
  congr 2
  apply Array.ext'
  rw [toList_madeCells_one]
  simp
end

theorem bytes_oneCell (zs : List Int) : ∀ u ∈ zs.map (Value.int .u8), u.oneCell' = true := ints_oneCell _ _

theorem run_append_nothing {P : Program} (w : World) {base e size n : Nat} {v : Value} {xs : List Value} (t ty : TypeId) (i : TypeInfo) (ht : P.underlying t = some (.slice e)) (hi : P.info? e = some i)
    (hown : w.ownsRow base e size v n xs) (c : Nat) : (Builtin.append_ #[t, t] ty #[v, .slice none 0 c]).run P w = .ok v w := by
  rcases hown.2 with ⟨hv, _⟩ | ⟨g, cap, cur, hv, _, _, hnc, _⟩ <;> subst hv
  · simp [Builtin.append_, run_underlying ht, sizeOf, typeInfo, hi, Builtin.lenOf, Builtin.firstCells]
  · simp [Builtin.append_, run_underlying ht, sizeOf, typeInfo, hi, Builtin.lenOf, Builtin.firstCells, hnc, storeCells]

/-- A text's bytes as numbers. -/
def strB (s : ByteArray) : List Int := s.data.toList.map fun b => (b.toNat : Int)
theorem strB_len (s : ByteArray) : (strB s).length = s.size := by
  rw [strB, List.length_map, Array.length_toList]; rfl
theorem strB_byte (s : ByteArray) : ∀ z ∈ strB s, 0 ≤ z ∧ z ≤ 255 := by
  intro z hz
  simp only [strB, List.mem_map] at hz
  obtain ⟨b, _, rfl⟩ := hz
  have := b.toNat_lt
  omega
theorem strB_cells (s : ByteArray) : (strB s).map (Value.int .u8) = Lib.strCells s := by
  simp [strB, Lib.strCells]

end Go.Proofs.Ytcpifanhmkblmaa
