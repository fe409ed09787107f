import Derived.WalkKit
import Derived.WalkSpells
import Derived.Lib.Hide
import Derived.Handy
import Derived.Deep.Draws
import Derived.Test.YtnpeankmmojebaaGreatDoorProg
import Derived.Laws.AppendOwnNone
import Derived.Deep.AppendLies
import Derived.Maps.AppendAt
import Derived.ProofKit
import Derived.Lib.AppendStr
import Derived.Laws.CopyOwn
import Derived.RangeFuncFrom
/- Words for memory that the proofs over package wire share: a slice of bytes that reads as a list of numbers; no program is named here. -/
set_option linter.unusedVariables false
namespace Go.Proofs.YtnpeankmmojebaaGreatDoor
set_option maxRecDepth 100000
open Go.RowKit

theorem block_add (a : Addr) (n : Nat) : (a.add n).block = a.block := by unfold Addr.add; split <;> rfl
theorem add_add (a : Addr) (i j : Nat) : (a.add i).add j = a.add (i + j) := by
  unfold Addr.add
  by_cases hi : i = 0 <;> by_cases hj : j = 0 <;> simp [hi, hj, Nat.add_assoc]

/-- The slice of address A and length n reads as the bytes zs. -/
structure RB (w : World) (A : Option Addr) (n : Nat) (zs : List Int) : Prop where
  len : zs.length = n
  byte : ∀ z ∈ zs, 0 ≤ z ∧ z ≤ 255
  cell : 0 < n → ∃ ad, A = some ad ∧ ∀ j, j < n → w.cell? (ad.add j) = some (.int .u8 (zs.getD j 0))

section
variable {w w' : World} {A : Option Addr} {n : Nat} {zs : List Int}
theorem RB.getD (h : RB w A n zs) (j : Nat) : 0 ≤ zs.getD j 0 ∧ zs.getD j 0 ≤ 255 := by
  by_cases hj : j < zs.length
  · have := h.byte (zs.getD j 0) (by simp [List.getD_eq_getElem?_getD, List.getElem?_eq_getElem hj])
    exact this
  · simp [List.getD_eq_getElem?_getD, List.getElem?_eq_none (by omega : zs.length ≤ j)]
theorem RB.at_ {k : Nat} (h : RB w A n zs) (hk : k < n) : ∃ ad, A = some ad ∧ w.cell? (ad.add k) = some (.int .u8 (zs.getD k 0)) := by
  obtain ⟨ad, e, hc⟩ := h.cell (by omega)
  exact ⟨ad, e, hc k hk⟩
theorem RB.keep (h : RB w A n zs) (hk : ∀ (p : Addr) v, w.cell? p = some v → w'.cell? p = some v) : RB w' A n zs :=
  ⟨h.len, h.byte, fun hn => by
    obtain ⟨ad, e, hc⟩ := h.cell hn
    exact ⟨ad, e, fun j hj => hk _ _ (hc j hj)⟩⟩
theorem RB.below {B : Nat} (h : RB w A n zs) (hb : Below B w w') (hB : w.heap.size ≤ B) : RB w' A n zs :=
  h.keep fun p _ hp => (hb.cell (Nat.lt_of_lt_of_le (World.block_lt_of_cell? w p hp) hB)).trans hp
theorem RB.below' (h : RB w A n zs) (hb : Below w.heap.size w w') : RB w' A n zs := h.below hb (Nat.le_refl _)
theorem RB.drew (h : RB w A n zs) : RB w.drew A n zs := ⟨h.len, h.byte, h.cell⟩
theorem RB.drewN (h : RB w A n zs) (k : Nat) : RB (w.drewN k) A n zs := ⟨h.len, h.byte, h.cell⟩
theorem RB.cut {k : Nat} (h : RB w A n zs) (hk : k ≤ n) (cap : Nat) (hc : n ≤ cap) :
    RB w (if cap = k then A else A.map (·.add k)) (n - k) (zs.drop k) := by
  refine ⟨by rw [List.length_drop, h.len], fun z hz => h.byte z (List.mem_of_mem_drop hz), fun hn => ?_⟩
  obtain ⟨ad, rfl, hcell⟩ := h.cell (by omega)
  rw [if_neg (by omega)]
  refine ⟨ad.add k, rfl, fun j hj => ?_⟩
  rw [add_add, hcell (k + j) (by omega)]
  simp [List.getD_eq_getElem?_getD, List.getElem?_drop]
theorem RB.take {k : Nat} (h : RB w A n zs) (hk : k ≤ n) : RB w A k (zs.take k) := by
  refine ⟨by rw [List.length_take, h.len]; omega, fun z hz => h.byte z (List.mem_of_mem_take hz), fun hn => ?_⟩
  obtain ⟨ad, rfl, hcell⟩ := h.cell (by omega)
  refine ⟨ad, rfl, fun j hj => ?_⟩
  rw [hcell j (by omega)]
  simp [List.getD_eq_getElem?_getD, hj]
end

theorem RB.block {w : World} {g : Nat} {zs : List Int} {e : TypeId} {fr : Nat × Nat} (hb : ∀ z ∈ zs, 0 ≤ z ∧ z ≤ 255) (h : w.heap[g]? = some (.cells (zs.map (Value.int .u8)).toArray e fr)) :
    RB w (some ⟨g, 0, none⟩) zs.length zs := by
  refine ⟨rfl, hb, fun _ => ⟨_, rfl, fun j hj => ?_⟩⟩
  have hadd : (⟨g, 0, none⟩ : Addr).add j = ⟨g, j, none⟩ := by unfold Addr.add; split <;> simp_all
  rw [hadd, cell_of_row w g j _ e fr h]
  simp [List.getD_eq_getElem?_getD, List.getElem?_eq_getElem hj]
theorem RB.new (w : World) {zs : List Int} {e : TypeId} {fr : Nat × Nat} (hb : ∀ z ∈ zs, 0 ≤ z ∧ z ≤ 255) :
    RB (w.alloc (.cells (zs.map (Value.int .u8)).toArray e fr)) (some ⟨w.heap.size, 0, none⟩) zs.length zs :=
  RB.block hb (heap_alloc_new w _)
theorem below_next {w w1 w2 : World} (h : Below w.heap.size w w1) (h2 : Below w1.heap.size w1 w2) : Below w.heap.size w w2 := h.trans (h2.mono h.size)
theorem keep_below {w w' : World} {p : Addr} {v : Value} (h : w.cell? p = some v) (hb : Below w.heap.size w w') : w'.cell? p = some v :=
  (hb.cell (World.block_lt_of_cell? w p h)).trans h
theorem RB.empty (w : World) (A : Option Addr) : RB w A 0 [] := ⟨rfl, by simp, fun h => absurd h (by omega)⟩

end Go.Proofs.YtnpeankmmojebaaGreatDoor

/- Words for memory: a slice of bytes that the call itself made, and what it holds. -/
namespace Go.Proofs.YtnpeankmmojebaaGreatDoor
set_option maxRecDepth 100000
open Go.RowKit

theorem info_u8 : (Tryz.prog.info? 5).map (fun i => (i.zero, i.size, i.bytes)) = some (some (.int .u8 0), 1, 1) := by kernel_rfl

/-- The value v is a slice of bytes that holds zs and owns its row among the blocks from base on. -/
structure OB (base : Nat) (w : World) (v : Value) (zs : List Int) : Prop where
  own : w.ownsRow base 5 1 v zs.length (zs.map (Value.int .u8))
  byte : ∀ z ∈ zs, 0 ≤ z ∧ z ≤ 255

section
variable {base : Nat} {w w' : World} {v : Value} {zs : List Int}
theorem OB.form (h : OB base w v zs) : ∃ A c, v = .slice A zs.length c ∧ RB w A zs.length zs ∧ zs.length ≤ c ∧ c ≤ maxLen := by
  rcases h.own.2 with ⟨rfl, h0⟩ | ⟨g, cap, cur, rfl, _, hh, hc, hm, _, ht⟩
  · have hz : zs = [] := List.eq_nil_of_length_eq_zero h0
    subst hz
    exact ⟨none, 0, rfl, RB.empty w _, Nat.le_refl _, by simp [maxLen]⟩
  · refine ⟨_, cap, rfl, ⟨rfl, h.byte, fun hn => ⟨_, rfl, fun j hj => ?_⟩⟩, hc, hm⟩
    have hadd : (⟨g, 0, none⟩ : Addr).add j = ⟨g, j, none⟩ := by unfold Addr.add; split <;> simp_all
    rw [hadd]
    have := h.own.cells (g := g) rfl j (.int .u8 (zs.getD j 0)) (by simp [List.getD_eq_getElem?_getD, List.getElem?_eq_getElem hj])
    rw [hadd] at this
    exact this
theorem OB.nil (base : Nat) (w : World) : OB base w (.slice none 0 0) [] := ⟨World.ownsRow_nil _ _ _ _, by simp⟩
theorem OB.drew (h : OB base w v zs) : OB base w.drew v zs := ⟨h.own.drew, h.byte⟩
theorem OB.alloc (h : OB base w v zs) (o : Obj) : OB base (w.alloc o) v zs := ⟨h.own.alloc o, h.byte⟩
theorem OB.below (h : OB base w v zs) (hb : Below w.heap.size w w') : OB base w' v zs := by
  refine ⟨h.own.kept (row := none) ⟨hb.os, hb.tape, hb.output, hb.size, fun k hk _ => hb.block k hk⟩ ?_, h.byte⟩
  cases hv : v.ownBlock <;> simp
theorem OB.mono {base' : Nat} (h : OB base w v zs) (hb : base' ≤ base) : OB base' w v zs := by
  refine ⟨⟨h.own.1, ?_⟩, h.byte⟩
  rcases h.own.2 with h0 | ⟨g, cap, cur, hv, hg, r⟩
  · exact .inl h0
  · exact .inr ⟨g, cap, cur, hv, by omega, r⟩
theorem OB.keep {B : Nat} (h : OB base w v zs) (hb : Below B w w') (hB : ∀ k, v.ownBlock = some k → k < B) : OB base w' v zs := by
  refine ⟨⟨h.own.1, ?_⟩, h.byte⟩
  rcases h.own.2 with h0 | ⟨g, cap, cur, rfl, hg, hh, r⟩
  · exact .inl h0
  · exact .inr ⟨g, cap, cur, rfl, hg, (hb.block g (hB g rfl)).trans hh, r⟩
theorem OB.lt (h : OB base w v zs) : ∀ k, v.ownBlock = some k → base ≤ k ∧ k < w.heap.size := h.own.lt
theorem below_of_grown {row : Option Nat} (hg : w.grownBy w' row) (hbase : base ≤ w.heap.size) (hr : ∀ k, row = some k → base ≤ k) : Below base w w' :=
  (Below.refl base w).grown hg hbase hr
end

theorem ob_made (w : World) (n c : Nat) (hnc : n ≤ c) (hc : c ≤ 281474976710656) :
    OB w.heap.size (w.alloc (.cells (madeCells #[.int .u8 0] c) 5)) (.slice (some ⟨w.heap.size, 0, none⟩) n c) (List.replicate n 0) := by
  refine ⟨⟨by simp, .inr ⟨w.heap.size, c, _, by simp, Nat.le_refl _, heap_alloc_new w _, by simpa using hnc, by simp only [maxLen]; omega, by simp [size_madeCells], ?_⟩⟩, fun z hz => ?_⟩
  · rw [toList_madeCells_one]
    simp [List.take_replicate, Nat.min_eq_left hnc]
  · have := List.eq_of_mem_replicate hz
    omega

theorem ob_lit (w : World) (zs : List Int) (hb : ∀ z ∈ zs, 0 ≤ z ∧ z ≤ 255) (hl : zs.length ≤ 140737488355328) :
    OB w.heap.size (w.alloc (.cells (zs.map (Value.int .u8)).toArray 5)) (.slice (some ⟨w.heap.size, 0, none⟩) zs.length zs.length) zs := by
  refine ⟨⟨by simp, .inr ⟨w.heap.size, zs.length, _, rfl, Nat.le_refl _, heap_alloc_new w _, Nat.le_refl _, by simp only [maxLen]; omega, by simp, ?_⟩⟩, hb⟩
  rw [List.take_of_length_le (by simp)]

/-- Block g is just the bytes zs. -/
def Row (w : World) (g : Nat) (zs : List Int) : Prop := w.heap[g]? = some (.cells (zs.map (Value.int .u8)).toArray 5 (0, 0))
section
variable {w w' : World} {g : Nat} {zs : List Int}
theorem Row.lt (h : Row w g zs) : g < w.heap.size := (Array.getElem?_eq_some_iff.1 h).1
theorem Row.cell (h : Row w g zs) {j : Nat} (hj : j < zs.length) : w.cell? ⟨g, j, none⟩ = some (.int .u8 (zs.getD j 0)) := by
  rw [cell_of_row w g j _ 5 (0, 0) h]
  simp [List.getD_eq_getElem?_getD, List.getElem?_eq_getElem hj]
theorem Row.frozen (h : Row w g zs) (j : Nat) : w.frozen? ⟨g, j, none⟩ = false := by
  unfold Row at h
  simp [World.frozen?, h]
theorem Row.set_ (h : Row w g zs) (j : Nat) (z : Int) : Row (w.setCell ⟨g, j, none⟩ (.int .u8 z)) g (zs.set j z) := by
  unfold Row at h ⊢
  have h2 : ((zs.map (Value.int .u8)).toArray).setIfInBounds j (.int .u8 z) = ((zs.set j z).map (Value.int .u8)).toArray := by
    apply Array.ext'
    simp [List.map_set]
  simp [World.setCell, Array.getElem?_modify, h, h2]
theorem Row.drew (h : Row w g zs) : Row w.drew g zs := h
theorem Row.keep (h : Row w g zs) (hk : w'.heap[g]? = w.heap[g]?) : Row w' g zs := hk.trans h
theorem Row.below (h : Row w g zs) (hb : Below w.heap.size w w') : Row w' g zs := h.keep (hb.block g h.lt)
theorem Row.rb (h : Row w g zs) (hb : ∀ z ∈ zs, 0 ≤ z ∧ z ≤ 255) : RB w (some ⟨g, 0, none⟩) zs.length zs := RB.block hb h
theorem Row.ob (h : Row w g zs) (hb : ∀ z ∈ zs, 0 ≤ z ∧ z ≤ 255) (hl : zs.length ≤ 140737488355328) {base : Nat} (hg : base ≤ g) : OB base w (.slice (some ⟨g, 0, none⟩) zs.length zs.length) zs := by
  refine ⟨⟨by simp, .inr ⟨g, zs.length, _, rfl, hg, h, Nat.le_refl _, by simp only [maxLen]; omega, by simp, ?_⟩⟩, hb⟩
  rw [List.take_of_length_le (by simp)]
theorem row_made (w : World) (c : Nat) : Row (w.alloc (.cells (madeCells #[.int .u8 0] c) 5)) w.heap.size (List.replicate c 0) := by
  unfold Row
  rw [heap_alloc_new]
  congr 2
  apply Array.ext'
  rw [toList_madeCells_one]
  simp
end

theorem bytes_oneCell (zs : List Int) : ∀ u ∈ zs.map (Value.int .u8), u.oneCell' = true := ints_oneCell _ _

theorem run_append_nothing {P : Program} (w : World) {base e size n : Nat} {v : Value} {xs : List Value} (t ty : TypeId) (i : TypeInfo) (ht : P.underlying t = some (.slice e)) (hi : P.info? e = some i)
    (hown : w.ownsRow base e size v n xs) (c : Nat) : (Builtin.append_ #[t, t] ty #[v, .slice none 0 c]).run P w = .ok v w := by
  rcases hown.2 with ⟨hv, _⟩ | ⟨g, cap, cur, hv, _, _, hnc, _⟩ <;> subst hv
  · simp [Builtin.append_, run_underlying ht, sizeOf, typeInfo, hi, Builtin.lenOf, Builtin.firstCells]
  · simp [Builtin.append_, run_underlying ht, sizeOf, typeInfo, hi, Builtin.lenOf, Builtin.firstCells, hnc, storeCells]

/-- A text's bytes as numbers. -/
def strB (s : ByteArray) : List Int := s.data.toList.map fun b => (b.toNat : Int)
theorem strB_len (s : ByteArray) : (strB s).length = s.size := by
  rw [strB, List.length_map, Array.length_toList]; rfl
theorem strB_byte (s : ByteArray) : ∀ z ∈ strB s, 0 ≤ z ∧ z ≤ 255 := by
  intro z hz
  simp only [strB, List.mem_map] at hz
  obtain ⟨b, _, rfl⟩ := hz
  have := b.toNat_lt
  omega
theorem strB_cells (s : ByteArray) : (strB s).map (Value.int .u8) = Lib.strCells s := by
  simp [strB, Lib.strCells]

end Go.Proofs.YtnpeankmmojebaaGreatDoor

/- A range over a function that lays each element in memory of its own making: the law of the statement, with what is known of an element where it is handed on. -/
namespace Go.Proofs.YtnpeankmmojebaaGreatDoor
set_option maxRecDepth 100000
open Go.RowKit

/-- New memory alone does not unsay it. -/
def Stays (I : World → Prop) : Prop := ∀ A B, I A → Below A.heap.size A B → I B
/-- A turn of a block from b on that is no cells does not unsay it. -/
def Turns (b : Nat) (I : World → Prop) : Prop := ∀ A l o o', I A → b ≤ l → A.heap[l]? = some o → o.isCells = false → I (A.putObj l o')

/-- What an iterator's value promises: an element is there ('ok') where it is handed on; it goes on only behind a round that kept what it needs ('keep'). -/
def Hands {α : Type} (F : Fence) (n : Nat) (P : Program) (g : Nat) (lb : Array Value) (encs : α → Array Value) (ok : List α → α → World → Prop) (keep : World → World → Prop)
    (all part : List α → Prop) (w : World) : Prop :=
  ∀ (l : Nat) (J Jx : List α → World → Prop) (W : World), Below w.heap.size w W → (∀ s, Stays (J s)) → (∀ s, Stays (Jx s)) →
    (∀ pre x A, J pre A → ok pre x A → YieldAt F (n - 1) P l (encs x) A fun e B =>
      (e = .returned (.bool true) ∧ J (pre ++ [x]) B ∧ keep A B) ∨ (e = .returned (.bool false) ∧ Jx (pre ++ [x]) B)) →
    J [] W →
    CallsIn F n P g (#[.func (.yield l) #[] #[]] ++ lb) W fun e B => (∃ v, e = .returned v) ∧ ((∃ xs, all xs ∧ J xs B) ∨ (∃ pre, part pre ∧ Jx pre B))

theorem stays_at {l : Nat} {o : Obj} : Stays (fun W => W.heap[l]? = some o) := fun A B h hb => (hb.block l (Array.getElem?_eq_some_iff.1 h).1).trans h
theorem others_of_below {A B : World} (h : Below A.heap.size A B) : KeepsOthers A B := ⟨h.size, fun k _ hk _ => (h.block k (Array.getElem?_eq_some_iff.1 hk).1).trans hk⟩

variable {F : Fence} {n : Nat} {P : Program}

theorem wp_hands {α : Type} {g : Operand} {ps : Array Tmp} {assign body : Code} {Q : Exit → Act → World → Prop} {a : Act} {w : World}
    (hro : F.round = none) (h1 : 1 ≤ n) {gf : Nat} {lb : Array Value} (hg : a.eval g = .func (.func gf) #[] lb) (hFg : F.fn gf) (eg : ∀ args w, (callFunc gf args).run P w = .ok (.enter gf args) w)
    {encs : α → Array Value} {ok : List α → α → World → Prop} {keep : World → World → Prop} {all part : List α → Prop} (hs : Hands F (n - 1) P gf lb encs ok keep all part w)
    (hkt : ∀ {A B C : World}, keep A B → keep B C → keep A C) (hkb : ∀ (A : World) (l : Nat) (o o' : Obj), w.heap.size ≤ l → A.heap[l]? = some o → o.isCells = false → keep A (A.putObj l o'))
    (hps : ∀ x, (encs x).size = ps.size) (I : List α → World → Prop) (Ix : Code → List α → World → Prop)
    (hI : ∀ s, Stays (I s)) (hI' : ∀ s, Turns w.heap.size (I s)) (hX : ∀ c s, Stays (Ix c s)) (hX' : ∀ c s, Turns w.heap.size (Ix c s)) (hO : ∀ s x, Turns w.heap.size (ok s x)) (h0 : I [] w) (a₁ : α → Act)
    (hassign : ∀ (l : Nat) (x : α) (W : World) (K : Act → World → Prop), K (a₁ x) W →
      assign.wpIn (F.inRound l) (n - 1 - 1) P (Exit.then K (fun _ _ _ => False)) { tmps := (ps.zip (encs x)).foldl (fun t (p, v) => t.setIfInBounds p v) a.tmps, defers := [] } W)
    (hbody : ∀ (l : Nat) (pre : List α) (x : α) (W : World), w.heap.size ≤ W.heap.size → I pre W → ok pre x W → body.wpIn (F.inRound l) (n - 1 - 1) P (ownPostK keep I Ix (pre ++ [x]) W) (a₁ x) W)
    (hdone : ∀ (D : Nat) (xs : List α) (W : World), w.heap.size ≤ D → all xs → I xs W → W.heap[D]? = some (.deferred (some [])) → Q .normal { a with defers := { target := .collected D, args := #[] } :: a.defers } W)
    (hstop : ∀ (D : Nat) (c : Code) (pre : List α) (W : World), w.heap.size ≤ D → part pre → Ix c pre W → W.heap[D]? = some (.deferred (some [])) → c.wpIn F n P Q { a with defers := { target := .collected D, args := #[] } :: a.defers } W) :
    (Code.rangeFunc g ps assign body).wpIn F n P Q a w := by
  refine wpIn_rangeFunc fun fn hfn => ?_
  rw [hro]
  obtain ⟨D, hD⟩ : ∃ D, D = w.heap.size := ⟨_, rfl⟩
  obtain ⟨W1, hW1⟩ : ∃ W1, W1 = (w.alloc (.deferred (some []))).alloc (.loop { state := .ready, pending := none, fn, tmps := a.tmps, params := ps, assign, body, defers := w.heap.size }) := ⟨_, rfl⟩
  obtain ⟨rc, hrc⟩ : ∃ rc : LoopState → Option Code → Obj, rc = fun st pe => .loop { state := st, pending := pe, fn, tmps := a.tmps, params := ps, assign, body, defers := w.heap.size } := ⟨_, rfl⟩
  have hne : ∀ st pe, (rc st pe).isCells = false := fun st pe => by rw [hrc]; rfl
  have b1 : Below w.heap.size w W1 := by rw [hW1]; exact ((Below.refl _ w).alloc (Nat.le_refl _) _).alloc (by simp) _
  have q1 : W1.heap[D + 1]? = some (rc .ready none) := by
    rw [hW1, hrc, hD]
    have := World.alloc_heap_new (w.alloc (.deferred (some []))) (.loop { state := .ready, pending := none, fn, tmps := a.tmps, params := ps, assign, body, defers := w.heap.size })
    rwa [World.size_alloc] at this
  have q2 : W1.heap[D]? = some (.deferred (some [])) := by
    rw [hW1, hD]
    exact (Below.heap_alloc _ _ _ (by simp)).trans (World.alloc_heap_new w _)
  refine ⟨w.heap.size + 1, [{ target := .collected w.heap.size, args := #[] }], W1, { target := .fn (.func gf) lb, args := #[.func (.yield (w.heap.size + 1)) #[] #[]] }, W1, gf,
    #[.func (.yield (w.heap.size + 1)) #[] #[]] ++ lb, W1, by rw [hW1]; exact run_enterLoop_outer _ _ _ _ _, ?_, ?_, ?_, fun _ => h1, ?_⟩
  · simp only [resolve, hg]
    simp [go_sem]
  · intro f' hf'
    simp [Target.leads] at hf'
    subst hf'
    exact hFg
  · simp [invoke, go_sem, eg]
  rw [← hD]
  refine (hs (D + 1) (fun pre W => I pre W ∧ W.heap[D + 1]? = some (rc .ready none) ∧ W.heap[D]? = some (.deferred (some [])))
    (fun pre W => ∃ c, Ix c pre W ∧ W.heap[D + 1]? = some (rc .done (some c)) ∧ W.heap[D]? = some (.deferred (some []))) W1 b1
    (fun s A B h hb => ⟨hI s A B h.1 hb, stays_at A B h.2.1 hb, stays_at A B h.2.2 hb⟩)
    (fun s A B h hb => by obtain ⟨c, x, y, z⟩ := h; exact ⟨c, hX c s A B x hb, stays_at A B y hb, stays_at A B z hb⟩)
    ?_ ⟨hI _ _ _ h0 b1, q1, q2⟩).mono ?_
  · rintro pre x A ⟨i1, r1, d1⟩ ho
    have hlt : D + 1 < A.heap.size := (Array.getElem?_eq_some_iff.1 r1).1
    have y := run_yield (P := P) (args := encs x) (by rw [r1, hrc]) (hps x)
    refine ⟨fn, _, assign, body, y, roundIn_of_wpIn hfn (hassign _ x A _ ⟨_, run_beginRound (by rw [r1, hrc]) rfl, ?_⟩)⟩
    obtain ⟨A2, hA2⟩ : ∃ A2, A2 = A.putObj (D + 1) (rc .busy none) := ⟨_, rfl⟩
    have e2 : A.putObj (D + 1) (.loop { state := .busy, pending := none, fn, tmps := a.tmps, params := ps, assign, body, defers := w.heap.size }) = A2 := by rw [hA2, hrc]
    have r2 : A2.heap[D + 1]? = some (rc .busy none) := by rw [hA2]; exact World.putObj_heap_same hlt
    have d2 : A2.heap[D]? = some (.deferred (some [])) := by rw [hA2]; exact (World.putObj_heap_other (by omega)).trans d1
    have k2 : keep A A2 := by rw [hA2]; exact hkb _ _ _ _ (by omega) r1 (hne _ _)
    have i2 : I pre A2 := by rw [hA2]; exact hI' _ _ _ _ _ i1 (by omega) r1 (hne _ _)
    have o2 : ok pre x A2 := by rw [hA2]; exact hO _ _ _ _ _ _ ho (by omega) r1 (hne _ _)
    have s2 : w.heap.size ≤ A2.heap.size := by have := (Array.getElem?_eq_some_iff.1 r2).1; omega
    have fin : ∀ (jump : Option Code) (B : World), KeepsOthers A2 B → ∃ C, C = B.putObj (D + 1) (rc (if jump.isNone then .ready else .done) jump) ∧
        (Instr.endRound (D + 1) jump).run P B = .ok (.bool jump.isNone) C ∧ B.heap[D + 1]? = some (rc .busy none) ∧ C.heap[D + 1]? = some (rc (if jump.isNone then .ready else .done) jump) ∧ C.heap[D]? = some (.deferred (some [])) := by
      intro jump B hk
      have r3 := hk.same _ _ r2 (hne _ _)
      have d3 := hk.same _ _ d2 rfl
      refine ⟨_, rfl, ?_, r3, World.putObj_heap_same (Array.getElem?_eq_some_iff.1 r3).1, (World.putObj_heap_other (by omega)).trans d3⟩
      have := run_endRound (P := P) jump (by rw [r3, hrc])
      rw [this, hrc]
    have leave : ∀ (c : Code) (B : World), KeepsOthers A2 B → Ix c (pre ++ [x]) B → ∃ v C, (Instr.endRound (D + 1) (some c)).run P B = .ok v C ∧
        ((Ending.returned v = .returned (.bool true) ∧ (I (pre ++ [x]) C ∧ C.heap[D + 1]? = some (rc .ready none) ∧ C.heap[D]? = some (.deferred (some []))) ∧ keep A C) ∨
         (Ending.returned v = .returned (.bool false) ∧ ∃ c, Ix c (pre ++ [x]) C ∧ C.heap[D + 1]? = some (rc .done (some c)) ∧ C.heap[D]? = some (.deferred (some [])))) := by
      intro c B hk hx
      obtain ⟨C, hC, hr, r3, r4, d4⟩ := fin (some c) B hk
      exact ⟨_, _, hr, .inr ⟨rfl, c, by rw [hC]; exact hX' _ _ _ _ _ _ hx (by omega) r3 (hne _ _), r4, d4⟩⟩
    show body.wpIn (F.inRound (D + 1)) (n - 1 - 1) P _ _ _
    refine wpIn_mono (Q := ownPostK keep I Ix (pre ++ [x]) A2) (by rw [← e2] at i2 o2 s2 ⊢; exact hbody _ pre x _ s2 i2 o2) ?_
    rintro e a3 B hp
    cases e with
    | normal =>
      obtain ⟨hk, kp, i3⟩ := hp
      obtain ⟨C, hC, hr, r3, r4, d4⟩ := fin none B hk
      exact ⟨_, _, hr, .inl ⟨rfl, ⟨by rw [hC]; exact hI' _ _ _ _ _ i3 (by omega) r3 (hne _ _), r4, d4⟩, hkt (hkt k2 kp) (by rw [hC]; exact hkb _ _ _ _ (by omega) r3 (hne _ _))⟩⟩
    | ret => exact leave .ret B hp.1 hp.2
    | exit id => exact leave (.exit id) B hp.1 hp.2
    | goto t => exact leave (.goto t) B hp.1 hp.2
    | panic ch => exact hp.elim
    | outgrown => exact hp.elim
  · rintro e B ⟨⟨v, rfl⟩, (⟨xs, hA, i1, r1, d1⟩ | ⟨pre, hp, c, i1, r1, d1⟩)⟩
    · refine ⟨none, _, run_endLoop (by rw [r1, hrc]) (by simp), ?_⟩
      rw [hD] at r1 d1 ⊢
      exact hdone _ xs _ (Nat.le_refl _) hA (hI' _ _ _ _ _ i1 (by omega) r1 (hne _ _)) ((World.putObj_heap_other (by omega)).trans d1)
    · refine ⟨some c, _, run_endLoop (by rw [r1, hrc]) (by simp), ?_⟩
      rw [hD] at r1 d1 ⊢
      exact hstop _ c pre _ (Nat.le_refl _) hp (hX' _ _ _ _ _ _ i1 (by omega) r1 (hne _ _)) ((World.putObj_heap_other (by omega)).trans d1)

end Go.Proofs.YtnpeankmmojebaaGreatDoor

/- A variable of the call's own in a block of its own. -/
namespace Go.Proofs.YtnpeankmmojebaaGreatDoor
set_option maxRecDepth 100000
open Go.RowKit

/-- Block b is a cell of one value that may be written. -/
def Cel (W : World) (b : Nat) (v : Value) : Prop := W.cell? ⟨b, 0, none⟩ = some v ∧ W.frozen? ⟨b, 0, none⟩ = false
theorem Cel.lt {W : World} {b : Nat} {v : Value} (h : Cel W b v) : b < W.heap.size := World.block_lt_of_cell? W ⟨b, 0, none⟩ h.1
theorem Cel.below {W W' : World} {b : Nat} {v : Value} (h : Cel W b v) (hb : Below W.heap.size W W') : Cel W' b v :=
  ⟨keep_below h.1 hb, (hb.frozen (p := ⟨b, 0, none⟩) h.lt).trans h.2⟩
theorem Cel.new (W : World) (v : Value) (t : TypeId) : Cel (W.alloc (.cells #[v] t)) W.heap.size v := by
  refine ⟨?_, ?_⟩
  · rw [cell_of_row (W.alloc (.cells #[v] t)) W.heap.size 0 #[v] t (0, 0) (heap_alloc_new W _)]
    simp
  · have := heap_alloc_new W (.cells #[v] t)
    unfold World.frozen?
    rw [this]
    rfl
theorem Cel.alloc {W : World} {b : Nat} {v : Value} (h : Cel W b v) (o : Obj) : Cel (W.alloc o) b v := h.below ((Below.refl _ _).alloc (Nat.le_refl _) _)
theorem Cel.turn {W : World} {b : Nat} {v : Value} (h : Cel W b v) {l : Nat} {o : Obj} (o' : Obj) (hl : W.heap[l]? = some o) (hc : o.isCells = false) : Cel (W.putObj l o') b v :=
  ⟨cell_kept h.1 (grownBy_putObj' W l o') (fun r e => by cases e; exact ⟨o, hl, hc⟩), (frozen_kept h.1 (grownBy_putObj' W l o') (fun r e => by cases e; exact ⟨o, hl, hc⟩)).trans h.2⟩
theorem Cel.set_same {W : World} {b : Nat} {v : Value} (h : Cel W b v) (u : Value) : Cel (W.setCell ⟨b, 0, none⟩ u) b u :=
  ⟨World.cell?_setCell_same' _ _ _ (by rw [h.1]; rfl), by rw [World.frozen?_setCell]; exact h.2⟩
theorem Cel.set_other {W : World} {b c : Nat} {v : Value} (h : Cel W b v) (hne : b ≠ c) (u : Value) : Cel (W.setCell ⟨c, 0, none⟩ u) b v :=
  ⟨(World.cell?_of_block (w := W) (a := ⟨b, 0, none⟩) (Below.heap_setCell _ _ _ _ hne)).trans h.1, by rw [World.frozen?_setCell]; exact h.2⟩
theorem RB.turn {W : World} {A : Option Addr} {n : Nat} {zs : List Int} (h : RB W A n zs) {l : Nat} {o : Obj} (o' : Obj) (hl : W.heap[l]? = some o) (hc : o.isCells = false) : RB (W.putObj l o') A n zs :=
  h.keep fun _ _ hp => cell_kept hp (grownBy_putObj' W l o') (fun r e => by cases e; exact ⟨o, hl, hc⟩)
theorem below_turn {s b l : Nat} {w W : World} {o : Obj} (h : Below s w W) (hs : s ≤ w.heap.size) (hb : s ≤ l) (o' : Obj) : Below s w (W.putObj l o') :=
  h.grown (grownBy_putObj' W l o') (Nat.le_trans hs h.size) (fun k e => by cases e; exact hb)

theorem OB.turn {b : Nat} {W : World} {v : Value} {zs : List Int} (h : OB b W v zs) {l : Nat} {o : Obj} (o' : Obj) (hl : W.heap[l]? = some o) (hc : o.isCells = false) : OB b (W.putObj l o') v zs := by
  refine ⟨⟨h.own.1, ?_⟩, h.byte⟩
  rcases h.own.2 with h0 | ⟨g, cap, cur, rfl, hg, hh, r⟩
  · exact .inl h0
  · exact .inr ⟨g, cap, cur, rfl, hg, (World.putObj_heap_other (fun e => by subst e; rw [hh] at hl; injection hl with hl; subst hl; cases hc)).trans hh, r⟩

end Go.Proofs.YtnpeankmmojebaaGreatDoor
