/- Whole structs and arrays, out of and into memory, as the walk meets them. -/
import Derived.Test.YtapjgancaldgaaaDSt
import Derived.Deep.WholeRow
import Derived.StillTailTactics
import Derived.Great.BuildSlice
import Derived.Deep.DeepCutAuto
import Derived.Lib.Hide
namespace Go.Proofs.Ytapjgancaldgaaa
set_option maxRecDepth 100000
open Go.RowKit

theorem run_loadFrom {P : Program} (w : World) (b o n : Nat) (cs : List Value) (hc : w.rangeAt b o cs) (hn : cs.length = n) : (loadCellsFrom ⟨b, o, none⟩ 0 n #[]).run P w = .ok cs.toArray w := by
  subst hn
  have := run_loadCells_list (P := P) w ⟨b, o, none⟩ cs (fun j v hv => by rw [Addr.add_mid]; exact hc j v hv)
  simpa [loadCells] using this
theorem run_storeInto {P : Program} (w : World) (b o : Nat) (cs : List Value) (ht : w.there b o cs.length) (h1 : ∀ v ∈ cs, v.oneCell' = true) : (storeCells ⟨b, o, none⟩ cs 0).run P w = .ok () (w.setCells b o cs) := by
  have := run_storeCells_cells (P := P) b o cs 0 w (fun j hj => by simpa using (ht j hj).1) (fun j hj => by simpa using (ht j hj).2) h1
  simpa using this
theorem run_storeNew {P : Program} (w : World) (t : TypeId) (c c' : Array Value) (i : TypeInfo) (hi : P.info? t = some i) (hs : i.size = c'.size) (ho : c.size = c'.size) (h1 : ∀ v ∈ c'.toList, v.oneCell' = true) :
    (storeCells ⟨w.heap.size, 0, none⟩ c'.toList 0).run P (w.alloc (.cells c t)) = .ok () (w.alloc (.cells c' t)) :=
  run_storeCells_new w t c c' (by simp [hi, hs]) ho (Array.all_eq_true_iff_forall_mem.2 (fun v hv => h1 v (by simpa using hv)))

def z80 : Array Value := (Cn.cells ⟨zero64, false⟩).toArray
def z83 : Array Value := (Wr.cells ⟨0, zero64⟩).toArray
theorem z80_size : z80.size = 65 := by simp [z80, Cn.cells, bc, zero64]
theorem z83_size : z83.size = 65 := by simp [z83, Wr.cells, bc, zero64]
theorem zero80 : (Try.prog.info? 97).map (fun i => (i.zero, i.size)) = some (some (.agg z80), 65) := by kernel_rfl
theorem zero83 : (Try.prog.info? 100).map (fun i => (i.zero, i.size)) = some (some (.agg z83), 65) := by kernel_rfl
theorem info80 : (Try.prog.info? 97).map (fun i => (i.zero, i.size, i.bytes)) = some (some (.agg z80), 65, 65) := by kernel_rfl
theorem info83 : (Try.prog.info? 100).map (fun i => (i.zero, i.size, i.bytes)) = some (some (.agg z83), 65, 72) := by kernel_rfl
theorem run_zero80 (w : World) : (zeroValue 97).run Try.prog w = .ok (.agg z80) w := (zero_of_info zero80).1 w
theorem run_zero83 (w : World) : (zeroValue 100).run Try.prog w = .ok (.agg z83) w := (zero_of_info zero83).1 w
theorem bc_one (zs : List Int) : ∀ v ∈ bc zs, v.oneCell' = true := bytes_oneCell zs
theorem Cn.one (c : Cn) : ∀ v ∈ c.cells, v.oneCell' = true := fun v hv => by
  rcases List.mem_append.1 hv with h | h
  · exact bc_one _ v h
  · simp at h; subst h; rfl
theorem Wr.one (x : Wr) : ∀ v ∈ x.cells, v.oneCell' = true := fun v hv => by
  rcases List.mem_cons.1 hv with rfl | h
  · rfl
  · exact bc_one _ v h
theorem z80_torn : z80.setIfInBounds 64 (.bool true) = (Cn.cells ⟨zero64, true⟩).toArray := by kernel_rfl
theorem fold_get : ∀ (bs : List Value) (z : Array Value) (k j : Nat), k + bs.length ≤ z.size → (List.foldl (fun cs x => cs.setIfInBounds x.snd x.fst) z (bs.zipIdx k))[j]? = if k ≤ j ∧ j < k + bs.length then bs[j - k]? else z[j]?
  | [], z, k, j, h => by simp; omega
  | v :: r, z, k, j, h => by
    simp only [List.zipIdx_cons, List.foldl_cons, List.length_cons] at h ⊢
    rw [fold_get r _ (k + 1) j (by simp; omega)]
    rcases Nat.lt_trichotomy j k with h1 | h1 | h1
    · rw [if_neg (by omega), if_neg (by omega), Array.getElem?_setIfInBounds_ne (by omega)]
    · subst h1
      rw [if_neg (by omega), if_pos (by omega), Array.getElem?_setIfInBounds_self]
      simp; omega
    · by_cases h2 : j < k + (r.length + 1)
      · rw [if_pos (by omega), if_pos (by omega), show j - k = (j - (k + 1)) + 1 by omega, List.getElem?_cons_succ]
      · rw [if_neg (by omega), if_neg (by omega), Array.getElem?_setIfInBounds_ne (by omega)]
/-- A block's bytes in a content's place. -/
theorem fold80 {zs : List Int} (h : B64 zs) : List.foldl (fun cs x => cs.setIfInBounds x.snd x.fst) z80 (bc zs).zipIdx = (Cn.cells ⟨zs, false⟩).toArray := by
  apply Array.ext_getElem?
  intro j
  rw [fold_get _ _ 0 j (by rw [bc_len, h.len, z80_size]; omega), bc_len, h.len]
  by_cases hj : j < 64
  · rw [if_pos (by omega)]
    simp only [List.getElem?_toArray, Cn.cells]
    rw [List.getElem?_append_left (by rw [bc_len, h.len]; exact hj)]
    rfl
  · rw [if_neg (by omega)]
    simp only [List.getElem?_toArray, Cn.cells, z80]
    rw [List.getElem?_append_right (l₁ := bc zero64) (by rw [bc_len, b64_zero.len]; omega), List.getElem?_append_right (l₁ := bc zs) (by rw [bc_len, h.len]; omega), bc_len, bc_len, h.len, b64_zero.len]
/-- A load of a whole struct, in a region whose first operations only read. -/
theorem wpStill_load {P : Program} {ops : Array Oper} {w : World} {Q : Act → Prop} {a : Act} {o : Oper} {rest : List Oper} (hgd : o.guard = none) (ty : TypeId) (x : Operand) (ho : o.op = .load ty x)
    (b off : Nat) (hx : a.eval x = .pointer (some ⟨b, off, none⟩)) (cs : List Value) (d : TypeDesc) (hc : w.rangeAt b off cs) (hu : P.underlying ty = some d) (hd : d.isRow = true) (hi : (P.info? ty).map (·.size) = some cs.length)
    (h : wpStill P ops w Q rest (a.put o.dst (.agg cs.toArray))) : wpStill P ops w Q (o :: rest) a := by
  refine wpStill_step (fun K hK => ?_)
  rw [if_pos (by simp [Region.wanted, hgd])]
  unfold Oper.still execOp
  simp only [ho, hx, Instr.loadAt, Instr.sureAddr, Sem.run_bind, Sem.run_pure, Result.andThen_ok, run_loadVar_mid w b off ty cs d hc hu hd hi, Oper.stillUpon_value]
  exact hK _ h
theorem fold_shift (m : Nat) : ∀ (bs : List Value) (z : Array Value) (k : Nat), List.foldl (fun cs x => cs.setIfInBounds (m + x.snd) x.fst) z (bs.zipIdx k) = List.foldl (fun cs x => cs.setIfInBounds x.snd x.fst) z (bs.zipIdx (m + k))
  | [], _, _ => rfl
  | v :: r, z, k => by
    simp only [List.zipIdx_cons, List.foldl_cons]
    rw [fold_shift m r]; rfl
/-- A place and a block's bytes as a write. -/
theorem fold83 {zs : List Int} (h : B64 zs) (n : Nat) : List.foldl (fun cs x => cs.setIfInBounds (1 + x.snd) x.fst) (z83.setIfInBounds 0 (.int .i64 (n : Int))) (bc zs).zipIdx = (Wr.cells ⟨n, zs⟩).toArray := by
  rw [fold_shift]
  apply Array.ext_getElem?
  intro j
  rw [fold_get _ _ _ j (by rw [bc_len, h.len]; simp [z83_size]), bc_len, h.len]
  by_cases h0 : j = 0
  · subst h0
    rw [if_neg (by omega), Array.getElem?_setIfInBounds_self]
    simp [z83_size, Wr.cells]
  · by_cases hj : j < 65
    · rw [if_pos (by omega)]
      obtain ⟨i, rfl⟩ : ∃ i, j = i + 1 := ⟨j - 1, by omega⟩
      simp [Wr.cells, show i + 1 - (1 + 0) = i by omega]
    · rw [if_neg (by omega), Array.getElem?_eq_none (by simp [z83_size]; omega), Array.getElem?_eq_none]
      have := Wr.len (x := ⟨n, zs⟩) h
      simp [this]; omega
theorem fill_one (cs : List Value) (Z : Array Value) (h : Z.size = cs.length) (hc : cs.length = 65) : Instr.fill (fun i => some (i * 65, 65)) Z [(0, .agg cs.toArray)] = some cs.toArray := by
  have e : List.foldl (fun (cs : Array Value) (x : Value × Nat) => cs.setIfInBounds (0 + x.snd) x.fst) Z cs.zipIdx = cs.toArray := by
    rw [fold_shift]
    apply Array.ext_getElem?
    intro j
    rw [fold_get _ _ _ j (by omega)]
    by_cases hj : j < cs.length
    · rw [if_pos (by omega)]; simp
    · rw [if_neg (by omega), Array.getElem?_eq_none (by omega), Array.getElem?_eq_none (by simp; omega)]
  have hz : Z.size = 65 := by omega
  simp only [Nat.zero_add] at e
  simp [Instr.fill, Value.cells, hc, hz, e]
/-- A slice of one write. -/
theorem wpList_buildOne {ops : Array Oper} {rest : List Oper} {o : Oper} {a : Act} {w : World} {Q : Exit → Act → World → Prop} (hg : o.guard = none) (x : Operand) (ho : o.op = .buildSlice 90 1 #[(0, x)])
    (cs : List Value) (hx : a.eval x = .agg cs.toArray) (hc : cs.length = 65)
    (h : wpList Try.prog ops Q rest (a.put o.dst (.slice (some ⟨w.heap.size, 0, none⟩) 1 1)) (w.alloc (.cells cs.toArray 100))) : wpList Try.prog ops Q (o :: rest) a w := by
  obtain ⟨i0, hi, hz0, hz1⟩ : ∃ i0, Try.prog.info? 100 = some i0 ∧ i0.zero = some (.agg z83) ∧ i0.size = 65 := by
    have := zero83
    cases hq : Try.prog.info? 100 with
    | none => rw [hq] at this; cases this
    | some i => rw [hq] at this; simp at this; exact ⟨i, rfl, this.1, this.2⟩
  refine wpList_buildSlice hg 90 100 1 #[(0, x)] ho cs.toArray i0 (.agg z83) Try.underlying90 hi hz0 (by rw [hz1]; decide) (by rw [hz1]; decide) ?_ h
  rw [hz1]
  simp only [List.map_toArray, List.map_cons, List.map_nil, hx]
  exact fill_one cs _ (by simp [hc]) hc
theorem run_buildOne (w : World) (cs : List Value) (hc : cs.length = 65) : (Instr.buildSlice 90 1 #[(0, .agg cs.toArray)]).run Try.prog w = .ok (.slice (some ⟨w.heap.size, 0, none⟩) 1 1) (w.alloc (.cells cs.toArray 100)) := by
  obtain ⟨i0, hi, hz0, hz1⟩ : ∃ i0, Try.prog.info? 100 = some i0 ∧ i0.zero = some (.agg z83) ∧ i0.size = 65 := by
    have := zero83
    cases hq : Try.prog.info? 100 with
    | none => rw [hq] at this; cases this
    | some i => rw [hq] at this; simp at this; exact ⟨i, rfl, this.1, this.2⟩
  refine run_buildSlice w 90 100 1 _ cs.toArray i0 (.agg z83) Try.underlying90 hi hz0 (by rw [hz1]; decide) (by rw [hz1]; decide) ?_
  rw [hz1]
  exact fill_one cs _ (by simp [hc]) hc
/-- The same at a step of a region that draws its order. -/
theorem step_buildOne {ops : Array Oper} {o : Oper} {a : Act} {w : World} {K : Act → World → Prop} {Q : Exit → Act → World → Prop} {E : Prop} (hg : o.guard = none) (x : Operand) (ho : o.op = .buildSlice 90 1 #[(0, x)])
    (cs : List Value) (hx : a.eval x = .agg cs.toArray) (hc : cs.length = 65)
    (h : K (a.put o.dst (.slice (some ⟨w.heap.size, 0, none⟩) 1 1)) (w.alloc (.cells cs.toArray 100))) :
    if Region.wanted o (yielded ops a.tmps) = true then Oper.wp Try.prog o a w K Q else E := by
  rw [if_pos (by simp [Region.wanted, hg])]
  unfold Oper.wp execOp
  simp only [ho, List.map_toArray, List.map_cons, List.map_nil, hx, Sem.run_bind, run_buildOne w cs hc, Result.andThen_ok]
  exact h
/-- An operation that reads, taken first. -/
theorem take_read {P : Program} {ops : Array Oper} {Q : Exit → Act → World → Prop} {md : Region.Mode} {S : World → Prop} (i : Nat) (k : Tmp) (v : Value) {oi : Oper} {fuel : Nat} {listed : Array Bool} {a : Act} {w : World} (hi : ops[i]? = some oi) (hk : oi.dst = some k)
    (hs : Region.noSelect ops = true) (hf : Region.free md ops listed i = true) (hr : (Region.ready md ops listed).contains i = true)
    (hQ : ∀ c a w, Q (.panic c) (a.put (some k) v) w → Q (.panic c) a w) (hw : Region.wanted oi (yielded ops a.tmps) = true) (hS : S w) (hy : ∀ w, S w → (execOp a.eval oi).run P w = .ok (.value v) w)
    (h : wpAnyH P md ops Q S fuel (listed.setIfInBounds i true) (a.put (some k) v) w) : wpAnyH P md ops Q S (fuel + 1) listed a w :=
  wpAnyH_take hi hs hf hr (by rw [hk]; exact hQ) (.inl ⟨hw, hy⟩) hS (by rw [hk]; exact h)
/-- One operation alone may come up. -/
theorem take_only {P : Program} {ops : Array Oper} {Q : Exit → Act → World → Prop} {md : Region.Mode} {S : World → Prop} (i : Nat) {o : Oper} {fuel : Nat} {listed : Array Bool} {a : Act} {w : World} (hr : Region.ready md ops listed = [i]) (ho : ops[i]? = some o)
    (h : ∀ K' : Act → World → Prop, (∀ a w, S w → (S w → wpAnyH P md ops Q S fuel (listed.setIfInBounds i true) a w) → K' a w) → if Region.wanted o (yielded ops a.tmps) = true then Oper.wp P o a w K' Q else K' (a.put o.dst undef) w) : wpAnyH P md ops Q S (fuel + 1) listed a w :=
  wpAnyH_ready hr (by simp) (AllReadyH.cons ho (fun K hK => h K hK.out) AllReadyH.nil)
end Go.Proofs.Ytapjgancaldgaaa
