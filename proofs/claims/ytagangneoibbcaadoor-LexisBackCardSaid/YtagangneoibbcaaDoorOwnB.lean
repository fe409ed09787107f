/- Words for memory: a slice of bytes that the call itself made, and what it holds. -/
import Derived.Test.YtagangneoibbcaaDoorProg
import Derived.Test.YtagangneoibbcaaDoorMem
import Derived.Laws.AppendOwnNone
import Derived.Deep.AppendLies
import Derived.Maps.AppendAt
import Derived.ProofKit
import Derived.Lib.AppendStr
import Derived.Laws.CopyOwn
set_option linter.unusedVariables false
namespace Go.Proofs.YtagangneoibbcaaDoor
set_option maxRecDepth 100000
open Go.RowKit

theorem info_u8 : (Tryd.prog.info? 5).map (fun i => (i.zero, i.size, i.bytes)) = some (some (.int .u8 0), 1, 1) := by kernel_rfl

/-- The value v is a slice of bytes that holds zs and owns its row among the blocks from base on. -/
structure OB (base : Nat) (w : World) (v : Value) (zs : List Int) : Prop where
  own : w.ownsRow base 5 1 v zs.length (zs.map (Value.int .u8))
  byte : ∀ z ∈ zs, 0 ≤ z ∧ z ≤ 255

section
variable {base : Nat} {w w' : World} {v : Value} {zs : List Int}
theorem OB.form (h : OB base w v zs) : ∃ A c, v = .slice A zs.length c ∧ RB w A zs.length zs ∧ zs.length ≤ c ∧ c ≤ maxLen := by
  rcases h.own.2 with ⟨rfl, h0⟩ | ⟨g, cap, cur, rfl, _, hh, hc, hm, _, ht⟩
  · have hz : zs = [] := List.eq_nil_of_length_eq_zero h0
    subst hz
    exact ⟨none, 0, rfl, RB.empty w _, Nat.le_refl _, by simp [maxLen]⟩
  · refine ⟨_, cap, rfl, ⟨rfl, h.byte, fun hn => ⟨_, rfl, fun j hj => ?_⟩⟩, hc, hm⟩
    have hadd : (⟨g, 0, none⟩ : Addr).add j = ⟨g, j, none⟩ := by unfold Addr.add; split <;> simp_all
    rw [hadd]
    have := h.own.cells (g := g) rfl j (.int .u8 (zs.getD j 0)) (by simp [List.getD_eq_getElem?_getD, List.getElem?_eq_getElem hj])
    rw [hadd] at this
    exact this
theorem OB.nil (base : Nat) (w : World) : OB base w (.slice none 0 0) [] := ⟨World.ownsRow_nil _ _ _ _, by simp⟩
theorem OB.drew (h : OB base w v zs) : OB base w.drew v zs := ⟨h.own.drew, h.byte⟩
theorem OB.alloc (h : OB base w v zs) (o : Obj) : OB base (w.alloc o) v zs := ⟨h.own.alloc o, h.byte⟩
theorem OB.below (h : OB base w v zs) (hb : Below w.heap.size w w') : OB base w' v zs := by
  refine ⟨h.own.kept (row := none) ⟨hb.os, hb.tape, hb.output, hb.size, fun k hk _ => hb.block k hk⟩ ?_, h.byte⟩
  cases hv : v.ownBlock <;> simp
theorem OB.mono {base' : Nat} (h : OB base w v zs) (hb : base' ≤ base) : OB base' w v zs := by
  refine ⟨⟨h.own.1, ?_⟩, h.byte⟩
  rcases h.own.2 with h0 | ⟨g, cap, cur, hv, hg, r⟩
  · exact .inl h0
  · exact .inr ⟨g, cap, cur, hv, by omega, r⟩
theorem OB.keep {B : Nat} (h : OB base w v zs) (hb : Below B w w') (hB : ∀ k, v.ownBlock = some k → k < B) : OB base w' v zs := by
  refine ⟨⟨h.own.1, ?_⟩, h.byte⟩
  rcases h.own.2 with h0 | ⟨g, cap, cur, rfl, hg, hh, r⟩
  · exact .inl h0
  · exact .inr ⟨g, cap, cur, rfl, hg, (hb.block g (hB g rfl)).trans hh, r⟩
theorem OB.lt (h : OB base w v zs) : ∀ k, v.ownBlock = some k → base ≤ k ∧ k < w.heap.size := h.own.lt
theorem below_of_grown {row : Option Nat} (hg : w.grownBy w' row) (hbase : base ≤ w.heap.size) (hr : ∀ k, row = some k → base ≤ k) : Below base w w' :=
  (Below.refl base w).grown hg hbase hr
end

/-- make([]byte, n, c) -/
theorem run_make_bytesK (kl kc : IntKind) (w : World) (n c : Int) (h0 : 0 ≤ n) (hnc : n ≤ c) (hc : c ≤ 281474976710656) :
    (Instr.makeSlice 58 (.int kl n) (.int kc c)).run Tryd.prog w = .ok (.slice (some ⟨w.heap.size, 0, none⟩) n.toNat c.toNat) (w.alloc (.cells (madeCells #[.int .u8 0] c.toNat) 5)) := by
  obtain ⟨i0, hi, hz0, hz1, hz2⟩ := info_parts info_u8
  have h := run_make (P := Tryd.prog) w 58 5 i0 (.int .u8 0) Tryd.underlying58 hi hz0 kl kc n c h0 hnc (by rw [hz2]; omega) (by omega)
  rw [hz1, Nat.mul_one] at h
  exact h
theorem run_make_bytes (w : World) (n c : Int) (h0 : 0 ≤ n) (hnc : n ≤ c) (hc : c ≤ 281474976710656) :
    (Instr.makeSlice 58 (.int .i64 n) (.int .i64 c)).run Tryd.prog w = .ok (.slice (some ⟨w.heap.size, 0, none⟩) n.toNat c.toNat) (w.alloc (.cells (madeCells #[.int .u8 0] c.toNat) 5)) :=
  run_make_bytesK .i64 .i64 w n c h0 hnc hc
theorem ob_made (w : World) (n c : Nat) (hnc : n ≤ c) (hc : c ≤ 281474976710656) :
    OB w.heap.size (w.alloc (.cells (madeCells #[.int .u8 0] c) 5)) (.slice (some ⟨w.heap.size, 0, none⟩) n c) (List.replicate n 0) := by
  refine ⟨⟨by simp, .inr ⟨w.heap.size, c, _, by simp, Nat.le_refl _, heap_alloc_new w _, by simpa using hnc, by simp only [maxLen]; omega, by simp [size_madeCells], ?_⟩⟩, fun z hz => ?_⟩
  · rw [toList_madeCells_one]
    simp [List.take_replicate, Nat.min_eq_left hnc]
  · have := List.eq_of_mem_replicate hz
    omega

theorem ob_lit (w : World) (zs : List Int) (hb : ∀ z ∈ zs, 0 ≤ z ∧ z ≤ 255) (hl : zs.length ≤ 140737488355328) :
    OB w.heap.size (w.alloc (.cells (zs.map (Value.int .u8)).toArray 5)) (.slice (some ⟨w.heap.size, 0, none⟩) zs.length zs.length) zs := by
  refine ⟨⟨by simp, .inr ⟨w.heap.size, zs.length, _, rfl, Nat.le_refl _, heap_alloc_new w _, Nat.le_refl _, by simp only [maxLen]; omega, by simp, ?_⟩⟩, hb⟩
  rw [List.take_of_length_le (by simp)]

/-- Block g is just the bytes zs. -/
def Row (w : World) (g : Nat) (zs : List Int) : Prop := w.heap[g]? = some (.cells (zs.map (Value.int .u8)).toArray 5 (0, 0))
section
variable {w w' : World} {g : Nat} {zs : List Int}
theorem Row.lt (h : Row w g zs) : g < w.heap.size := (Array.getElem?_eq_some_iff.1 h).1
theorem Row.cell (h : Row w g zs) {j : Nat} (hj : j < zs.length) : w.cell? ⟨g, j, none⟩ = some (.int .u8 (zs.getD j 0)) := by
  rw [cell_of_row w g j _ 5 (0, 0) h]
  simp [List.getD_eq_getElem?_getD, List.getElem?_eq_getElem hj]
theorem Row.frozen (h : Row w g zs) (j : Nat) : w.frozen? ⟨g, j, none⟩ = false := by
  unfold Row at h
  simp [World.frozen?, h]
theorem Row.set_ (h : Row w g zs) (j : Nat) (z : Int) : Row (w.setCell ⟨g, j, none⟩ (.int .u8 z)) g (zs.set j z) := by
  unfold Row at h ⊢
  have h2 : ((zs.map (Value.int .u8)).toArray).setIfInBounds j (.int .u8 z) = ((zs.set j z).map (Value.int .u8)).toArray := by
    apply Array.ext'
    simp [List.map_set]
  simp [World.setCell, Array.getElem?_modify, h, h2]
theorem Row.drew (h : Row w g zs) : Row w.drew g zs := h
theorem Row.keep (h : Row w g zs) (hk : w'.heap[g]? = w.heap[g]?) : Row w' g zs := hk.trans h
theorem Row.below (h : Row w g zs) (hb : Below w.heap.size w w') : Row w' g zs := h.keep (hb.block g h.lt)
theorem Row.rb (h : Row w g zs) (hb : ∀ z ∈ zs, 0 ≤ z ∧ z ≤ 255) : RB w (some ⟨g, 0, none⟩) zs.length zs := RB.block hb h
theorem Row.ob (h : Row w g zs) (hb : ∀ z ∈ zs, 0 ≤ z ∧ z ≤ 255) (hl : zs.length ≤ 140737488355328) {base : Nat} (hg : base ≤ g) : OB base w (.slice (some ⟨g, 0, none⟩) zs.length zs.length) zs := by
  refine ⟨⟨by simp, .inr ⟨g, zs.length, _, rfl, hg, h, Nat.le_refl _, by simp only [maxLen]; omega, by simp, ?_⟩⟩, hb⟩
  rw [List.take_of_length_le (by simp)]
theorem row_made (w : World) (c : Nat) : Row (w.alloc (.cells (madeCells #[.int .u8 0] c) 5)) w.heap.size (List.replicate c 0) := by
  unfold Row
  rw [heap_alloc_new]
  congr 2
  apply Array.ext'
  rw [toList_madeCells_one]
  simp
end

theorem bytes_oneCell (zs : List Int) : ∀ u ∈ zs.map (Value.int .u8), u.oneCell' = true := ints_oneCell _ _

theorem run_append_nothing {P : Program} (w : World) {base e size n : Nat} {v : Value} {xs : List Value} (t ty : TypeId) (i : TypeInfo) (ht : P.underlying t = some (.slice e)) (hi : P.info? e = some i)
    (hown : w.ownsRow base e size v n xs) (c : Nat) : (Builtin.append_ #[t, t] ty #[v, .slice none 0 c]).run P w = .ok v w := by
  rcases hown.2 with ⟨hv, _⟩ | ⟨g, cap, cur, hv, _, _, hnc, _⟩ <;> subst hv
  · simp [Builtin.append_, run_underlying ht, sizeOf, typeInfo, hi, Builtin.lenOf, Builtin.firstCells]
  · simp [Builtin.append_, run_underlying ht, sizeOf, typeInfo, hi, Builtin.lenOf, Builtin.firstCells, hnc, storeCells]

/-- append of bytes onto a slice that the call itself made. -/
theorem ob_append {w : World} {ops : Array Oper} {rest : List Oper} {o : Oper} {a : Act} {Q : Exit → Act → World → Prop} (hgd : o.guard = none) (s x : Operand)
    (ho : o.op = .call { callee := .builtin .append, args := #[s, x], argTypes := #[58, 58] })
    (base : Nat) (v : Value) (zs : List Int) (hs : a.eval s = v) (hown : OB base w v zs) (A : Option Addr) (m c : Nat) (ys : List Int) (hx : a.eval x = .slice A m c) (hr : RB w A m ys)
    (hsz : zs.length + m ≤ 140737488355328) (hbase : base ≤ w.heap.size)
    (h : ∀ v' w', OB base w' v' (zs ++ ys) → Below base w w' → w.grownBy w' v.ownBlock → wpList Tryd.prog ops Q rest (a.put o.dst v') w') : wpList Tryd.prog ops Q (o :: rest) a w := by
  obtain ⟨i0, hi, hz0, hz1, hz2⟩ := info_parts info_u8
  have hrow : ∀ k, v.ownBlock = some k → base ≤ k := fun k hk => (hown.lt k hk).1
  have hlen := hr.len
  rcases A with _ | ad
  · have hm : m = 0 := by
      rcases Nat.eq_zero_or_pos m with h0 | h0
      · exact h0
      · obtain ⟨ad, e, _⟩ := hr.cell h0
        cases e
    subst hm
    have hy : ys = [] := List.eq_nil_of_length_eq_zero hlen
    subst hy
    refine wpList_plain hgd fun K hK => ?_
    have hrun := run_append_nothing w 58 o.type i0 Tryd.underlying58 hi hown.own c
    unfold Oper.wp
    simp [execOp, ho, resolve, invoke, builtin, hs, hx, hrun, Result.andThen]
    exact hK _ _ (h v w (by simpa using hown) (Below.refl _ _) (World.grownBy.refl w _))
  · refine wpList_append_own w hgd s x 58 ho base 5 i0 (.int .u8 0) 1 1 Tryd.underlying58 hi hz0 hz1 hz2 rfl (by decide) v zs.length _ hs hown.own ad m c (ys.map (Value.int .u8)) hx (by simpa using hlen) ?_ (bytes_oneCell ys)
      (by simp only [maxLen]; omega) (by omega) hbase ?_
    · intro j u hu
      have hj : j < ys.length := by
        rcases Nat.lt_or_ge j ys.length with h1 | h1
        · exact h1
        · rw [List.getElem?_eq_none (by simpa using h1)] at hu; cases hu
      obtain ⟨ad', e, hc⟩ := hr.at_ (k := j) (by omega)
      injection e with e
      subst e
      rw [hc]
      simpa [List.getD_eq_getElem?_getD, List.getElem?_eq_getElem hj] using hu
    · intro v' w' hown' hg _
      refine h v' w' ⟨?_, ?_⟩ (below_of_grown hg hbase hrow) hg
      · rw [List.length_append, List.map_append, hlen]; exact hown'
      · intro z hz
        rcases List.mem_append.1 hz with hz | hz
        · exact hown.byte z hz
        · exact hr.byte z hz

/-- copy of bytes into a block that the call itself made. -/
theorem row_copy {w : World} {ops : Array Oper} {rest : List Oper} {o : Oper} {a : Act} {Q : Exit → Act → World → Prop} (hgd : o.guard = none) (d s : Operand)
    (ho : o.op = .call { callee := .builtin .copy, args := #[d, s], argTypes := #[58, 58] })
    (dp A : Option Addr) (dLen dCap n c m : Nat) (hd : a.eval d = .slice dp dLen dCap) (hs : a.eval s = .slice A n c)
    (g off : Nat) (zs : List Int) (hrow : Row w g zs) (ys : List Int) (hr : RB w A m ys) (hmin : Nat.min n dLen = m) (hpos : 0 < m → dp = some ⟨g, off, none⟩) (hfit : off + m ≤ zs.length)
    (h : ∀ w', Row w' g (splice zs off ys) → Below g w w' → wpList Tryd.prog ops Q rest (a.put o.dst (goInt m)) w') : wpList Tryd.prog ops Q (o :: rest) a w := by
  obtain ⟨i0, hi, hz0, hz1, hz2⟩ := info_parts info_u8
  have hlen := hr.len
  have hn : ((ys.map (Value.int .u8)).length : Nat) = m := by simpa using hlen
  refine wpList_copy_splice hgd d s 58 58 ho 5 Tryd.underlying58 (by simp [hi, hz1]) dp A dLen dCap n c hd hs g off (zs.map (Value.int .u8)) 5 hrow (ys.map (Value.int .u8)) (by rw [hn, hmin])
    (fun h0 => ?_) (by simpa [hlen] using hfit) (bytes_oneCell ys) g w (Below.refl _ _) (Nat.le_refl _) ?_
  · obtain ⟨ad, e, hc⟩ := hr.cell (by omega)
    refine ⟨hpos (by omega), ad, e, fun j u hu => ?_⟩
    have hj : j < ys.length := by
      rcases Nat.lt_or_ge j ys.length with h1 | h1
      · exact h1
      · rw [List.getElem?_eq_none (by simpa using h1)] at hu; cases hu
    rw [hc j (by omega)]
    simpa [List.getD_eq_getElem?_getD, List.getElem?_eq_getElem hj] using hu
  · intro w' hw hb
    rw [hn]
    refine h w' ?_ hb
    have hw := hw.out
    unfold Row
    rw [hw]
    congr 2
    apply Array.ext'
    simp [splice]

/-- A text's bytes as numbers. -/
def strB (s : ByteArray) : List Int := s.data.toList.map fun b => (b.toNat : Int)
theorem strB_len (s : ByteArray) : (strB s).length = s.size := by
  rw [strB, List.length_map, Array.length_toList]; rfl
theorem strB_byte (s : ByteArray) : ∀ z ∈ strB s, 0 ≤ z ∧ z ≤ 255 := by
  intro z hz
  simp only [strB, List.mem_map] at hz
  obtain ⟨b, _, rfl⟩ := hz
  have := b.toNat_lt
  omega
theorem strB_cells (s : ByteArray) : (strB s).map (Value.int .u8) = Lib.strCells s := by
  simp [strB, Lib.strCells]

/-- append of a text's bytes onto a slice that the call itself made. -/
theorem ob_append_str {w : World} {ops : Array Oper} {rest : List Oper} {o : Oper} {a : Act} {Q : Exit → Act → World → Prop} (hgd : o.guard = none) (s x : Operand)
    (ho : o.op = .call { callee := .builtin .append, args := #[s, x], argTypes := #[58, 9] })
    (base : Nat) (v : Value) (zs : List Int) (hs : a.eval s = v) (hown : OB base w v zs) (t : ByteArray) (hx : a.eval x = .string t)
    (hsz : zs.length + t.size ≤ 140737488355328) (hbase : base ≤ w.heap.size)
    (h : ∀ v' w', OB base w' v' (zs ++ strB t) → Below base w w' → w.grownBy w' v.ownBlock → wpList Tryd.prog ops Q rest (a.put o.dst v') w') : wpList Tryd.prog ops Q (o :: rest) a w := by
  obtain ⟨i0, hi, hz0, hz1, hz2⟩ := info_parts info_u8
  have hrow : ∀ k, v.ownBlock = some k → base ≤ k := fun k hk => (hown.lt k hk).1
  refine Lib.wpList_append_own_string w hgd s x 58 9 ho base 5 i0 Tryd.underlying58 Tryd.underlying9 hi hz0 hz1 hz2 v zs.length _ hs hown.own t hx (by simp only [maxLen]; omega) hsz hbase ?_
  intro v' w' hown' hg _
  refine h v' w' ⟨?_, ?_⟩ (below_of_grown hg hbase hrow) hg
  · rw [List.length_append, List.map_append, strB_len, strB_cells]; exact hown'
  · intro z hz
    rcases List.mem_append.1 hz with hz | hz
    · exact hown.byte z hz
    · exact strB_byte t z hz

end Go.Proofs.YtagangneoibbcaaDoor
