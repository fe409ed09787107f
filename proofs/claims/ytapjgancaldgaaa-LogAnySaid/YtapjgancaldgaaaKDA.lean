import Derived.Test.YtapjgancaldgaaaDSt
import Derived.Deep.WholeRow
import Derived.StillTailTactics
import Derived.Great.BuildSlice
import Derived.Deep.DeepCutAuto
import Derived.Lib.Hide
/- Whole structs and arrays, out of and into memory, as the walk meets them. -/
namespace Go.Proofs.Ytapjgancaldgaaa
set_option maxRecDepth 100000
open Go.RowKit

theorem run_loadFrom {P : Program} (w : World) (b o n : Nat) (cs : List Value) (hc : w.rangeAt b o cs) (hn : cs.length = n) : (loadCellsFrom ⟨b, o, none⟩ 0 n #[]).run P w = .ok cs.toArray w := by
  subst hn
  have := run_loadCells_list (P := P) w ⟨b, o, none⟩ cs (fun j v hv => by rw [Addr.add_mid]; exact hc j v hv)
  simpa [loadCells] using this
theorem run_storeInto {P : Program} (w : World) (b o : Nat) (cs : List Value) (ht : w.there b o cs.length) (h1 : ∀ v ∈ cs, v.oneCell' = true) : (storeCells ⟨b, o, none⟩ cs 0).run P w = .ok () (w.setCells b o cs) := by
  have := run_storeCells_cells (P := P) b o cs 0 w (fun j hj => by simpa using (ht j hj).1) (fun j hj => by simpa using (ht j hj).2) h1
  simpa using this
theorem run_storeNew {P : Program} (w : World) (t : TypeId) (c c' : Array Value) (i : TypeInfo) (hi : P.info? t = some i) (hs : i.size = c'.size) (ho : c.size = c'.size) (h1 : ∀ v ∈ c'.toList, v.oneCell' = true) :
    (storeCells ⟨w.heap.size, 0, none⟩ c'.toList 0).run P (w.alloc (.cells c t)) = .ok () (w.alloc (.cells c' t)) :=
  run_storeCells_new w t c c' (by simp [hi, hs]) ho (Array.all_eq_true_iff_forall_mem.2 (fun v hv => h1 v (by simpa using hv)))

def z80 : Array Value := (Cn.cells ⟨zero64, false⟩).toArray
def z83 : Array Value := (Wr.cells ⟨0, zero64⟩).toArray
theorem z80_size : z80.size = 65 := by simp [z80, Cn.cells, bc, zero64]
theorem z83_size : z83.size = 65 := by simp [z83, Wr.cells, bc, zero64]
theorem zero80 : (Try.prog.info? 97).map (fun i => (i.zero, i.size)) = some (some (.agg z80), 65) := by kernel_rfl
theorem zero83 : (Try.prog.info? 100).map (fun i => (i.zero, i.size)) = some (some (.agg z83), 65) := by kernel_rfl
theorem info80 : (Try.prog.info? 97).map (fun i => (i.zero, i.size, i.bytes)) = some (some (.agg z80), 65, 65) := by kernel_rfl
theorem info83 : (Try.prog.info? 100).map (fun i => (i.zero, i.size, i.bytes)) = some (some (.agg z83), 65, 72) := by kernel_rfl
theorem run_zero80 (w : World) : (zeroValue 97).run Try.prog w = .ok (.agg z80) w := (zero_of_info zero80).1 w
theorem run_zero83 (w : World) : (zeroValue 100).run Try.prog w = .ok (.agg z83) w := (zero_of_info zero83).1 w
theorem bc_one (zs : List Int) : ∀ v ∈ bc zs, v.oneCell' = true := bytes_oneCell zs
theorem Cn.one (c : Cn) : ∀ v ∈ c.cells, v.oneCell' = true := fun v hv => by
  rcases List.mem_append.1 hv with h | h
  · exact bc_one _ v h
  · simp at h; subst h; rfl
theorem Wr.one (x : Wr) : ∀ v ∈ x.cells, v.oneCell' = true := fun v hv => by
  rcases List.mem_cons.1 hv with rfl | h
  · rfl
  · exact bc_one _ v h
theorem z80_torn : z80.setIfInBounds 64 (.bool true) = (Cn.cells ⟨zero64, true⟩).toArray := by kernel_rfl
theorem fold_get : ∀ (bs : List Value) (z : Array Value) (k j : Nat), k + bs.length ≤ z.size → (List.foldl (fun cs x => cs.setIfInBounds x.snd x.fst) z (bs.zipIdx k))[j]? = if k ≤ j ∧ j < k + bs.length then bs[j - k]? else z[j]?
  | [], z, k, j, h => by simp; omega
  | v :: r, z, k, j, h => by
    simp only [List.zipIdx_cons, List.foldl_cons, List.length_cons] at h ⊢
    rw [fold_get r _ (k + 1) j (by simp; omega)]
    rcases Nat.lt_trichotomy j k with h1 | h1 | h1
    · rw [if_neg (by omega), if_neg (by omega), Array.getElem?_setIfInBounds_ne (by omega)]
    · subst h1
      rw [if_neg (by omega), if_pos (by omega), Array.getElem?_setIfInBounds_self]
      simp; omega
    · by_cases h2 : j < k + (r.length + 1)
      · rw [if_pos (by omega), if_pos (by omega), show j - k = (j - (k + 1)) + 1 by omega, List.getElem?_cons_succ]
      · rw [if_neg (by omega), if_neg (by omega), Array.getElem?_setIfInBounds_ne (by omega)]
/-- A block's bytes in a content's place. -/
theorem fold80 {zs : List Int} (h : B64 zs) : List.foldl (fun cs x => cs.setIfInBounds x.snd x.fst) z80 (bc zs).zipIdx = (Cn.cells ⟨zs, false⟩).toArray := by
  apply Array.ext_getElem?
  intro j
  rw [fold_get _ _ 0 j (by rw [bc_len, h.len, z80_size]; omega), bc_len, h.len]
  by_cases hj : j < 64
  · rw [if_pos (by omega)]
    simp only [List.getElem?_toArray, Cn.cells]
    rw [List.getElem?_append_left (by rw [bc_len, h.len]; exact hj)]
    rfl
  · rw [if_neg (by omega)]
    simp only [List.getElem?_toArray, Cn.cells, z80]
    rw [List.getElem?_append_right (l₁ := bc zero64) (by rw [bc_len, b64_zero.len]; omega), List.getElem?_append_right (l₁ := bc zs) (by rw [bc_len, h.len]; omega), bc_len, bc_len, h.len, b64_zero.len]
/-- A load of a whole struct, in a region whose first operations only read. -/
theorem wpStill_load {P : Program} {ops : Array Oper} {w : World} {Q : Act → Prop} {a : Act} {o : Oper} {rest : List Oper} (hgd : o.guard = none) (ty : TypeId) (x : Operand) (ho : o.op = .load ty x)
    (b off : Nat) (hx : a.eval x = .pointer (some ⟨b, off, none⟩)) (cs : List Value) (d : TypeDesc) (hc : w.rangeAt b off cs) (hu : P.underlying ty = some d) (hd : d.isRow = true) (hi : (P.info? ty).map (·.size) = some cs.length)
    (h : wpStill P ops w Q rest (a.put o.dst (.agg cs.toArray))) : wpStill P ops w Q (o :: rest) a := by
  refine wpStill_step (fun K hK => ?_)
  rw [if_pos (by simp [Region.wanted, hgd])]
  unfold Oper.still execOp
  simp only [ho, hx, Instr.loadAt, Instr.sureAddr, Sem.run_bind, Sem.run_pure, Result.andThen_ok, run_loadVar_mid w b off ty cs d hc hu hd hi, Oper.stillUpon_value]
  exact hK _ h
theorem fold_shift (m : Nat) : ∀ (bs : List Value) (z : Array Value) (k : Nat), List.foldl (fun cs x => cs.setIfInBounds (m + x.snd) x.fst) z (bs.zipIdx k) = List.foldl (fun cs x => cs.setIfInBounds x.snd x.fst) z (bs.zipIdx (m + k))
  | [], _, _ => rfl
  | v :: r, z, k => by
    simp only [List.zipIdx_cons, List.foldl_cons]
    rw [fold_shift m r]; rfl
/-- A place and a block's bytes as a write. -/
theorem fold83 {zs : List Int} (h : B64 zs) (n : Nat) : List.foldl (fun cs x => cs.setIfInBounds (1 + x.snd) x.fst) (z83.setIfInBounds 0 (.int .i64 (n : Int))) (bc zs).zipIdx = (Wr.cells ⟨n, zs⟩).toArray := by
  rw [fold_shift]
  apply Array.ext_getElem?
  intro j
  rw [fold_get _ _ _ j (by rw [bc_len, h.len]; simp [z83_size]), bc_len, h.len]
  by_cases h0 : j = 0
  · subst h0
    rw [if_neg (by omega), Array.getElem?_setIfInBounds_self]
    simp [z83_size, Wr.cells]
  · by_cases hj : j < 65
    · rw [if_pos (by omega)]
      obtain ⟨i, rfl⟩ : ∃ i, j = i + 1 := ⟨j - 1, by omega⟩
      simp [Wr.cells, show i + 1 - (1 + 0) = i by omega]
    · rw [if_neg (by omega), Array.getElem?_eq_none (by simp [z83_size]; omega), Array.getElem?_eq_none]
      have := Wr.len (x := ⟨n, zs⟩) h
      simp [this]; omega
theorem fill_one (cs : List Value) (Z : Array Value) (h : Z.size = cs.length) (hc : cs.length = 65) : Instr.fill (fun i => some (i * 65, 65)) Z [(0, .agg cs.toArray)] = some cs.toArray := by
  have e : List.foldl (fun (cs : Array Value) (x : Value × Nat) => cs.setIfInBounds (0 + x.snd) x.fst) Z cs.zipIdx = cs.toArray := by
    rw [fold_shift]
    apply Array.ext_getElem?
    intro j
    rw [fold_get _ _ _ j (by omega)]
    by_cases hj : j < cs.length
    · rw [if_pos (by omega)]; simp
    · rw [if_neg (by omega), Array.getElem?_eq_none (by omega), Array.getElem?_eq_none (by simp; omega)]
  have hz : Z.size = 65 := by omega
  simp only [Nat.zero_add] at e
  simp [Instr.fill, Value.cells, hc, hz, e]
/-- A slice of one write. -/
theorem wpList_buildOne {ops : Array Oper} {rest : List Oper} {o : Oper} {a : Act} {w : World} {Q : Exit → Act → World → Prop} (hg : o.guard = none) (x : Operand) (ho : o.op = .buildSlice 90 1 #[(0, x)])
    (cs : List Value) (hx : a.eval x = .agg cs.toArray) (hc : cs.length = 65)
    (h : wpList Try.prog ops Q rest (a.put o.dst (.slice (some ⟨w.heap.size, 0, none⟩) 1 1)) (w.alloc (.cells cs.toArray 100))) : wpList Try.prog ops Q (o :: rest) a w := by
  obtain ⟨i0, hi, hz0, hz1⟩ : ∃ i0, Try.prog.info? 100 = some i0 ∧ i0.zero = some (.agg z83) ∧ i0.size = 65 := by
    have := zero83
    cases hq : Try.prog.info? 100 with
    | none => rw [hq] at this; cases this
    | some i => rw [hq] at this; simp at this; exact ⟨i, rfl, this.1, this.2⟩
  refine wpList_buildSlice hg 90 100 1 #[(0, x)] ho cs.toArray i0 (.agg z83) Try.underlying90 hi hz0 (by rw [hz1]; decide) (by rw [hz1]; decide) ?_ h
  rw [hz1]
  simp only [List.map_toArray, List.map_cons, List.map_nil, hx]
  exact fill_one cs _ (by simp [hc]) hc
theorem run_buildOne (w : World) (cs : List Value) (hc : cs.length = 65) : (Instr.buildSlice 90 1 #[(0, .agg cs.toArray)]).run Try.prog w = .ok (.slice (some ⟨w.heap.size, 0, none⟩) 1 1) (w.alloc (.cells cs.toArray 100)) := by
  obtain ⟨i0, hi, hz0, hz1⟩ : ∃ i0, Try.prog.info? 100 = some i0 ∧ i0.zero = some (.agg z83) ∧ i0.size = 65 := by
    have := zero83
    cases hq : Try.prog.info? 100 with
    | none => rw [hq] at this; cases this
    | some i => rw [hq] at this; simp at this; exact ⟨i, rfl, this.1, this.2⟩
  refine run_buildSlice w 90 100 1 _ cs.toArray i0 (.agg z83) Try.underlying90 hi hz0 (by rw [hz1]; decide) (by rw [hz1]; decide) ?_
  rw [hz1]
  exact fill_one cs _ (by simp [hc]) hc
/-- The same at a step of a region that draws its order. -/
theorem step_buildOne {ops : Array Oper} {o : Oper} {a : Act} {w : World} {K : Act → World → Prop} {Q : Exit → Act → World → Prop} {E : Prop} (hg : o.guard = none) (x : Operand) (ho : o.op = .buildSlice 90 1 #[(0, x)])
    (cs : List Value) (hx : a.eval x = .agg cs.toArray) (hc : cs.length = 65)
    (h : K (a.put o.dst (.slice (some ⟨w.heap.size, 0, none⟩) 1 1)) (w.alloc (.cells cs.toArray 100))) :
    if Region.wanted o (yielded ops a.tmps) = true then Oper.wp Try.prog o a w K Q else E := by
  rw [if_pos (by simp [Region.wanted, hg])]
  unfold Oper.wp execOp
  simp only [ho, List.map_toArray, List.map_cons, List.map_nil, hx, Sem.run_bind, run_buildOne w cs hc, Result.andThen_ok]
  exact h
/-- An operation that reads, taken first. -/
theorem take_read {P : Program} {ops : Array Oper} {Q : Exit → Act → World → Prop} {md : Region.Mode} {S : World → Prop} (i : Nat) (k : Tmp) (v : Value) {oi : Oper} {fuel : Nat} {listed : Array Bool} {a : Act} {w : World} (hi : ops[i]? = some oi) (hk : oi.dst = some k)
    (hs : Region.noSelect ops = true) (hf : Region.free md ops listed i = true) (hr : (Region.ready md ops listed).contains i = true)
    (hQ : ∀ c a w, Q (.panic c) (a.put (some k) v) w → Q (.panic c) a w) (hw : Region.wanted oi (yielded ops a.tmps) = true) (hS : S w) (hy : ∀ w, S w → (execOp a.eval oi).run P w = .ok (.value v) w)
    (h : wpAnyH P md ops Q S fuel (listed.setIfInBounds i true) (a.put (some k) v) w) : wpAnyH P md ops Q S (fuel + 1) listed a w :=
  wpAnyH_take hi hs hf hr (by rw [hk]; exact hQ) (.inl ⟨hw, hy⟩) hS (by rw [hk]; exact h)
/-- One operation alone may come up. -/
theorem take_only {P : Program} {ops : Array Oper} {Q : Exit → Act → World → Prop} {md : Region.Mode} {S : World → Prop} (i : Nat) {o : Oper} {fuel : Nat} {listed : Array Bool} {a : Act} {w : World} (hr : Region.ready md ops listed = [i]) (ho : ops[i]? = some o)
    (h : ∀ K' : Act → World → Prop, (∀ a w, S w → (S w → wpAnyH P md ops Q S fuel (listed.setIfInBounds i true) a w) → K' a w) → if Region.wanted o (yielded ops a.tmps) = true then Oper.wp P o a w K' Q else K' (a.put o.dst undef) w) : wpAnyH P md ops Q S (fuel + 1) listed a w :=
  wpAnyH_ready hr (by simp) (AllReadyH.cons ho (fun K hK => h K hK.out) AllReadyH.nil)
end Go.Proofs.Ytapjgancaldgaaa

/- The calls of block.list and of settle. -/
namespace Go.Proofs.Ytapjgancaldgaaa
set_option maxRecDepth 100000
open Go.RowKit

theorem dlist (cs : List Value) (w : World) (hl : cs.length = 64) :
    Calls Try.prog 84 #[.agg cs.toArray] w fun e w' => e = .returned (.slice (some ⟨w.heap.size, 0, none⟩) 64 64) ∧ w' = w.alloc (.cells cs.toArray 95) := by
  go_enter Try.func84, Try.ntmps84
  go_wp2
  go_ret
  exact ⟨rfl, rfl⟩

/-- What settle makes of the lasting blocks. -/
def settleL (l : List Cn) (x : Wr) (k : Int) : List Cn := if k = 1 then l.set x.p ⟨x.b, false⟩ else if k = 2 then l.set x.p ⟨zero64, true⟩ else l

def SettleIs (F : Nat → Prop) (w : World) (d : Nat) (S : St) (nw : List Int) (vl vp vn : Value) (x : Wr) (k : Int) (e : Ending) (w' : World) : Prop :=
  e = .returned (.tuple #[]) ∧ Dv F w' d { S with last := settleL S.last x k } nw vl vp vn ∧ Out F w w'

theorem settle_laid {F : Nat → Prop} {w : World} {d g cap : Nat} {S : St} {nw : List Int} {vp vn : Value} (h : Dv F w d S nw (.slice (some ⟨g, 0, none⟩) S.last.length cap) vp vn) (x : Wr) (hp : x.p < S.last.length) (c : Cn) (hc : B64 c.b) (W : World) (A B : Obj) (hW : W = (w.alloc A).alloc B) :
    (storeCells ⟨g, x.p * 65, none⟩ c.cells 0).run Try.prog W.drew = .ok () (W.drew.setCells g (x.p * 65) c.cells) ∧ Dv F (W.drew.setCells g (x.p * 65) c.cells) d { S with last := S.last.set x.p c } nw (.slice (some ⟨g, 0, none⟩) S.last.length cap) vp vn ∧ Out F w (W.drew.setCells g (x.p * 65) c.cells) := by
  subst hW
  have hd := (h.alloc A |>.alloc B).drew
  have hle : x.p * 65 + 65 ≤ (S.last.flatMap Cn.cells).length := by
    rw [flat_len' S.last (fun y hy => Cn.len (h.wf.lb y hy))]
    omega
  refine ⟨run_storeInto _ _ _ _ (own_there hd.last _ _ (by rw [Cn.len hc]; exact hle)) (Cn.one c), hd.setLast x.p hp c hc, ?_⟩
  exact (((Out.refl F w).alloc A |>.alloc B).drew).setCells (.inl (h.fl g rfl).1) _ _

theorem dsettle1 {F : Nat → Prop} {w : World} {d : Nat} {S : St} {nw : List Int} {vl vp vn : Value} (h : Dv F w d S nw vl vp vn) (x : Wr) (hx : B64 x.b) (hp : x.p < S.last.length) :
    Calls Try.prog 56 #[.pointer (some ⟨d, 0, none⟩), .agg x.cells.toArray, .int .i64 1] w (SettleIs F w d S nw vl vp vn x 1) := by
  obtain ⟨g, cap, rfl, hF, hgd⟩ := h.lform
  have hz := run_zero80
  have hs80 := z80_size
  obtain ⟨W1, hW1⟩ : ∃ W, W = (w.alloc (.cells x.cells.toArray 100)).alloc (.cells (Cn.cells ⟨zero64, true⟩).toArray 97) := ⟨_, rfl⟩
  obtain ⟨W2, hW2⟩ : ∃ W, W = (w.alloc (.cells x.cells.toArray 100)).alloc (.cells (Cn.cells ⟨x.b, false⟩).toArray 97) := ⟨_, rfl⟩
  have hst : (storeCells ⟨w.heap.size + 1, 0, none⟩ (z80.toList.set 64 (.bool true)) 0).run Try.prog ((w.alloc (.cells x.cells.toArray 100)).alloc (.cells z80 97)) = .ok () W1 := by
    rw [hW1]
    have := run_storeNew (P := Try.prog) (w.alloc (.cells x.cells.toArray 100)) 97 z80 (Cn.cells ⟨zero64, true⟩).toArray _ (by rfl) (by rfl) (by rfl) (by simpa using Cn.one _)
    rw [← z80_torn] at this ⊢
    simpa using this
  have hcl : (Cn.cells ⟨x.b, false⟩).length = 65 := Cn.len hx
  have hst2 : (storeCells ⟨w.heap.size + 1, 0, none⟩ (Cn.cells ⟨x.b, false⟩) 0).run Try.prog W1 = .ok () W2 := by
    rw [hW1, hW2]
    have := run_storeNew (P := Try.prog) (w.alloc (.cells x.cells.toArray 100)) 97 (Cn.cells ⟨zero64, true⟩).toArray (Cn.cells ⟨x.b, false⟩).toArray _ (by rfl) (by simp [hcl]; rfl) (by simp [hcl]; rfl) (by simpa using Cn.one _)
    simpa using this
  have hr : W1.rangeAt w.heap.size 1 (bc x.b) := fun j v hv => by
    rw [hW1, cell_of_row _ _ _ _ _ _ (heap_alloc2_old _ _ _)]
    simp [Wr.cells, Nat.add_comm 1 j, hv]
  have c0 : W2.cell? ⟨w.heap.size, 0, none⟩ = some (.int .i64 (x.p : Int)) := by
    rw [hW2, cell_of_row _ _ _ _ _ _ (heap_alloc2_old _ _ _)]; rfl
  have c1 : W2.cell? ⟨d, 0, none⟩ = some (.slice (some ⟨g, 0, none⟩) S.last.length cap) := by
    rw [hW2]; exact ((h.alloc _).alloc _).cell 0
  have hr6 : W2.drew.rangeAt (w.heap.size + 1) 0 (Cn.cells ⟨x.b, false⟩) := fun j v hv => by
    rw [World.cell?_drew, hW2, cell_of_row _ _ _ _ _ _ (heap_alloc2_new _ _ _)]
    simpa using hv
  obtain ⟨k1, k2, k3⟩ := settle_laid h x hp ⟨x.b, false⟩ hx W2 _ _ hW2
  generalize W2.drew.setCells g (x.p * 65) (Cn.cells ⟨x.b, false⟩) = W3 at k1 k2 k3
  clear hW1 hW2
  have HR := Lib.hid hr
  have HR6 := Lib.hid hr6
  clear hr hr6
  have HI := Lib.hid (show (Try.prog.info? 95).map (·.size) = some (bc x.b).length by rw [bc_len, hx.len]; rfl)
  have HI6 := Lib.hid (show (Try.prog.info? 97).map (·.size) = some (Cn.cells ⟨x.b, false⟩).length by rw [hcl]; rfl)
  have hbl : (bc x.b).length = 64 := by rw [bc_len, hx.len]
  have hfo := fold80 hx
  have hi1 : (x.p : Int) < (S.last.length : Int) := by omega
  go_enter Try.func56, Try.ntmps56
  go_upto_region 6 with (with_reducible refine wpList_load_mid rfl 95 (.tmp 13) rfl w.heap.size 1 rfl (bc x.b) _ HR.out Try.underlying95 rfl HI.out ?_)
  clear HR hst hst2 hz hfo HI
  refine wp_region_still_tail 8 (by kernel_rfl) (by kernel_rfl) ?_
  simp only [List.take_succ_cons, List.take_zero, List.drop_succ_cons, List.drop_zero]
  change wpStill _ _ W2.drew _ _ _
  iterate 6 still_step
  refine wpStill_load rfl 97 (.tmp 6) rfl (w.heap.size + 1) 0 rfl _ _ HR6.out Try.underlying97 rfl HI6.out ?_
  still_step
  refine wpStill_nil ?_
  change wpList _ _ _ _ _ W2.drew
  go_wp2
  go_end0
  exact ⟨rfl, k2, k3⟩

theorem dsettle2 {F : Nat → Prop} {w : World} {d : Nat} {S : St} {nw : List Int} {vl vp vn : Value} (h : Dv F w d S nw vl vp vn) (x : Wr) (hp : x.p < S.last.length) :
    Calls Try.prog 56 #[.pointer (some ⟨d, 0, none⟩), .agg x.cells.toArray, .int .i64 2] w (SettleIs F w d S nw vl vp vn x 2) := by
  obtain ⟨g, cap, rfl, hF, hgd⟩ := h.lform
  have hz := run_zero80
  have hs80 := z80_size
  obtain ⟨W2, hW2⟩ : ∃ W, W = (w.alloc (.cells x.cells.toArray 100)).alloc (.cells (Cn.cells ⟨zero64, true⟩).toArray 97) := ⟨_, rfl⟩
  have hst : (storeCells ⟨w.heap.size + 1, 0, none⟩ (z80.toList.set 64 (.bool true)) 0).run Try.prog ((w.alloc (.cells x.cells.toArray 100)).alloc (.cells z80 97)) = .ok () W2 := by
    rw [hW2]
    have := run_storeNew (P := Try.prog) (w.alloc (.cells x.cells.toArray 100)) 97 z80 (Cn.cells ⟨zero64, true⟩).toArray _ (by rfl) (by rfl) (by rfl) (by simpa using Cn.one _)
    rw [← z80_torn] at this ⊢
    simpa using this
  have hcl : (Cn.cells ⟨zero64, true⟩).length = 65 := rfl
  have c0 : W2.cell? ⟨w.heap.size, 0, none⟩ = some (.int .i64 (x.p : Int)) := by
    rw [hW2, cell_of_row _ _ _ _ _ _ (heap_alloc2_old _ _ _)]; rfl
  have c1 : W2.cell? ⟨d, 0, none⟩ = some (.slice (some ⟨g, 0, none⟩) S.last.length cap) := by
    rw [hW2]; exact ((h.alloc _).alloc _).cell 0
  have hr6 : W2.drew.rangeAt (w.heap.size + 1) 0 (Cn.cells ⟨zero64, true⟩) := fun j v hv => by
    rw [World.cell?_drew, hW2, cell_of_row _ _ _ _ _ _ (heap_alloc2_new _ _ _)]
    simpa using hv
  obtain ⟨k1, k2, k3⟩ := settle_laid h x hp ⟨zero64, true⟩ b64_zero W2 _ _ hW2
  generalize W2.drew.setCells g (x.p * 65) (Cn.cells ⟨zero64, true⟩) = W3 at k1 k2 k3
  clear hW2
  have HR6 := Lib.hid hr6
  clear hr6
  have HI6 := Lib.hid (show (Try.prog.info? 97).map (·.size) = some (Cn.cells ⟨zero64, true⟩).length by rw [hcl]; rfl)
  have hi1 : (x.p : Int) < (S.last.length : Int) := by omega
  go_enter Try.func56, Try.ntmps56
  go_upto_region 6 with fail
  clear hst hz
  refine wp_region_still_tail 8 (by kernel_rfl) (by kernel_rfl) ?_
  simp only [List.take_succ_cons, List.take_zero, List.drop_succ_cons, List.drop_zero]
  change wpStill _ _ W2.drew _ _ _
  iterate 6 still_step
  refine wpStill_load rfl 97 (.tmp 6) rfl (w.heap.size + 1) 0 rfl _ _ HR6.out Try.underlying97 rfl HI6.out ?_
  still_step
  refine wpStill_nil ?_
  change wpList _ _ _ _ _ W2.drew
  go_wp2
  go_end0
  exact ⟨rfl, k2, k3⟩

theorem dsettle0 {F : Nat → Prop} {w : World} {d : Nat} {S : St} {nw : List Int} {vl vp vn : Value} (h : Dv F w d S nw vl vp vn) (x : Wr) :
    Calls Try.prog 56 #[.pointer (some ⟨d, 0, none⟩), .agg x.cells.toArray, .int .i64 0] w (SettleIs F w d S nw vl vp vn x 0) := by
  have hz := run_zero80
  have hs80 := z80_size
  obtain ⟨W1, hW1⟩ : ∃ W, W = (w.alloc (.cells x.cells.toArray 100)).alloc (.cells (Cn.cells ⟨zero64, true⟩).toArray 97) := ⟨_, rfl⟩
  have hst : (storeCells ⟨w.heap.size + 1, 0, none⟩ (z80.toList.set 64 (.bool true)) 0).run Try.prog ((w.alloc (.cells x.cells.toArray 100)).alloc (.cells z80 97)) = .ok () W1 := by
    rw [hW1]
    have := run_storeNew (P := Try.prog) (w.alloc (.cells x.cells.toArray 100)) 97 z80 (Cn.cells ⟨zero64, true⟩).toArray _ (by rfl) (by rfl) (by rfl) (by simpa using Cn.one _)
    rw [← z80_torn] at this ⊢
    simpa using this
  have HE := Lib.hid (show Dv F W1 d S nw vl vp vn ∧ Out F w W1 by rw [hW1]; exact ⟨(h.alloc _).alloc _, ((Out.refl F w).alloc _).alloc _⟩)
  clear hW1
  go_enter Try.func56, Try.ntmps56
  go_wp2
  go_end0
  exact ⟨rfl, HE.out⟩

theorem dsettle {F : Nat → Prop} {w : World} {d : Nat} {S : St} {nw : List Int} {vl vp vn : Value} (h : Dv F w d S nw vl vp vn) (x : Wr) (hx : B64 x.b) (hp : x.p < S.last.length) (k : Int) (hk : k = 0 ∨ k = 1 ∨ k = 2) :
    Calls Try.prog 56 #[.pointer (some ⟨d, 0, none⟩), .agg x.cells.toArray, .int .i64 k] w (SettleIs F w d S nw vl vp vn x k) := by
  rcases hk with rfl | rfl | rfl
  · exact dsettle0 h x
  · exact dsettle1 h x hx hp
  · exact dsettle2 h x hp
end Go.Proofs.Ytapjgancaldgaaa

/- The small calls of a disk: made, has, refuses, refusesAll, spend, Off, Blocks, Counts, Plan. -/
namespace Go.Proofs.Ytapjgancaldgaaa
set_option maxRecDepth 100000
open Go.RowKit

section
variable {F : Nat → Prop} {w : World} {d : Nat} {S : St} {nw : List Int} {vl vp vn : Value}
theorem Dv.c0 (h : Dv F w d S nw vl vp vn) : w.cell? ⟨d, 0, none⟩ = some vl := h.cell 0
theorem Dv.c1 (h : Dv F w d S nw vl vp vn) : w.cell? ⟨d, 1, none⟩ = some vp := h.cell 1
theorem Dv.c2 (h : Dv F w d S nw vl vp vn) : w.cell? ⟨d, 2, none⟩ = some vn := h.cell 2
theorem Dv.c3 (h : Dv F w d S nw vl vp vn) : w.cell? ⟨d, 3, none⟩ = some (.bool S.off) := h.cell 3
theorem Dv.c4 (h : Dv F w d S nw vl vp vn) : w.cell? ⟨d, 4, none⟩ = some (.int .i64 S.plan) := h.cell 4
theorem Dv.c5 (h : Dv F w d S nw vl vp vn) : w.cell? ⟨d, 5, none⟩ = some (.int .i64 S.writes) := h.cell 5
theorem Dv.c6 (h : Dv F w d S nw vl vp vn) : w.cell? ⟨d, 6, none⟩ = some (.int .i64 S.syncs) := h.cell 6

theorem dmade (h : Dv F w d S nw vl vp vn) : Calls Try.prog 49 #[.pointer (some ⟨d, 0, none⟩)] w fun e w' => e = .returned (.bool true) ∧ w = w' := by
  obtain ⟨g, cap, rfl, hF, hgd⟩ := h.lform
  have c0 := h.c0
  have hlo := h.wf.lo
  have hp : (0 : Int) < (S.last.length : Int) := by omega
  go_enter Try.func49, Try.ntmps49
  go_wp2
  go_ret
  exact ⟨by simp; omega, rfl⟩
theorem dhas (h : Dv F w d S nw vl vp vn) (n : Int) : Calls Try.prog 67 #[.pointer (some ⟨d, 0, none⟩), .int .i64 n] w fun e w' => e = .returned (.bool (decide (0 ≤ n ∧ n < (S.last.length : Int)))) ∧ w = w' := by
  obtain ⟨g, cap, rfl, hF, hgd⟩ := h.lform
  have c0 := h.c0
  by_cases h1 : 0 ≤ n
  · by_cases h2 : n < (S.last.length : Int)
    · go_enter Try.func67, Try.ntmps67
      go_wp2
      go_ret
      exact ⟨by simp [h1, h2], rfl⟩
    · have h3 : decide (n < (S.last.length : Int)) = false := by simp; omega
      go_enter Try.func67, Try.ntmps67
      go_wp2
      go_ret
      exact ⟨by simp [h3], rfl⟩
  · have h3 : decide (0 ≤ n) = false := by simp; omega
    go_enter Try.func67, Try.ntmps67
    go_wp2
    go_ret
    exact ⟨by simp [h1], rfl⟩
theorem drefusesAll (h : Dv F w d S nw vl vp vn) : Calls Try.prog 55 #[.pointer (some ⟨d, 0, none⟩)] w fun e w' => e = .returned (.int .i64 (if S.off then 22 else 0)) ∧ w = w' := by
  have c3 := h.c3
  cases ho : S.off with
  | true =>
    rw [ho] at c3
    go_enter Try.func55, Try.ntmps55
    go_wp2_with (go_at_call 49; refine (dmade h).mono ?_; rintro e w' ⟨rfl, rfl⟩)
    go_ret
    exact ⟨rfl, rfl⟩
  | false =>
    rw [ho] at c3
    go_enter Try.func55, Try.ntmps55
    go_wp2_with (go_at_call 49; refine (dmade h).mono ?_; rintro e w' ⟨rfl, rfl⟩)
    go_ret
    exact ⟨rfl, rfl⟩
theorem drefuses (h : Dv F w d S nw vl vp vn) (n : Int) : Calls Try.prog 53 #[.pointer (some ⟨d, 0, none⟩), .int .i64 n] w fun e w' => e = .returned (.int .i64 (if S.off then 22 else if 0 ≤ n ∧ n < (S.last.length : Int) then 0 else 20)) ∧ w = w' := by
  have r := drefusesAll h
  cases ho : S.off with
  | true =>
    rw [ho] at r
    go_enter Try.func53, Try.ntmps53
    go_wp2_with (go_at_call 55; refine r.mono ?_; rintro e w' ⟨rfl, rfl⟩)
    go_ret
    exact ⟨rfl, rfl⟩
  | false =>
    rw [ho] at r
    have hs := dhas h n
    by_cases hn : 0 ≤ n ∧ n < (S.last.length : Int)
    · rw [decide_eq_true hn] at hs
      rw [if_pos hn]
      go_enter Try.func53, Try.ntmps53
      go_wp2_with (first
        | (go_at_call 55; refine r.mono ?_; rintro e w' ⟨rfl, rfl⟩)
        | (go_at_call 67; refine hs.mono ?_; rintro e w' ⟨rfl, rfl⟩))
      go_ret
      exact ⟨rfl, rfl⟩
    · rw [decide_eq_false hn] at hs
      rw [if_neg hn]
      go_enter Try.func53, Try.ntmps53
      go_wp2_with (first
        | (go_at_call 55; refine r.mono ?_; rintro e w' ⟨rfl, rfl⟩)
        | (go_at_call 67; refine hs.mono ?_; rintro e w' ⟨rfl, rfl⟩))
      go_ret
      exact ⟨rfl, rfl⟩

/-- One taken from the plan. -/
def spendS (S : St) : St := if S.plan = -1 then S else if S.plan = 0 then { S with off := true, plan := -1 } else { S with plan := S.plan - 1 }
def spendE (S : St) : Int := if S.plan = 0 then 22 else 0
theorem spendS_last (S : St) : (spendS S).last = S.last := by unfold spendS; split <;> (try split) <;> rfl
theorem spendS_pend (S : St) : (spendS S).pend = S.pend := by unfold spendS; split <;> (try split) <;> rfl

theorem dspend (h : Dv F w d S nw vl vp vn) : Calls Try.prog 54 #[.pointer (some ⟨d, 0, none⟩)] w fun e w' => e = .returned (.int .i64 (spendE S)) ∧ Dv F w' d (spendS S) nw vl vp vn ∧ Out F w w' := by
  have c4 := h.c4
  have f3 := h.frozen 3
  have f4 := h.frozen 4
  have c3 := h.c3
  have hpl := h.wf.pl
  unfold spendE spendS
  by_cases h1 : S.plan = -1
  · rw [h1] at c4
    rw [if_pos h1, if_neg (by omega)]
    have HH := Lib.hid h
    clear h h1 hpl
    go_enter Try.func54, Try.ntmps54
    go_wp2
    go_ret
    exact ⟨rfl, HH.out, Out.refl _ _⟩
  · rw [if_neg h1]
    by_cases h2 : S.plan = 0
    · rw [h2] at c4
      rw [if_pos h2, if_pos h2]
      have HH := Lib.hid (show Dv F ((w.setCell ⟨d, 3, none⟩ (.bool true)).setCell ⟨d, 4, none⟩ (.int .i64 (-1))) d { S with off := true, plan := -1 } nw vl vp vn ∧ Out F w ((w.setCell ⟨d, 3, none⟩ (.bool true)).setCell ⟨d, 4, none⟩ (.int .i64 (-1))) from ⟨(h.setOff true).setPlan (-1) (by omega), ((Out.refl F w).setCell (.inl h.fd) _).setCell (.inl h.fd) _⟩)
      clear h h1 h2 hpl
      go_enter Try.func54, Try.ntmps54
      go_wp2
      go_ret
      exact ⟨rfl, HH.out⟩
    · rw [if_neg h2, if_neg h2]
      have b1 : (S.plan == -1) = false := by simpa using h1
      have b2 : (S.plan == 0) = false := by simpa using h2
      have hb1 : -9223372036854775808 ≤ S.plan - 1 := by omega
      have hb2 : S.plan - 1 ≤ 9223372036854775807 := by omega
      have HH := Lib.hid (show Dv F (w.setCell ⟨d, 4, none⟩ (.int .i64 (S.plan - 1))) d { S with plan := S.plan - 1 } nw vl vp vn ∧ Out F w (w.setCell ⟨d, 4, none⟩ (.int .i64 (S.plan - 1))) from ⟨h.setPlan (S.plan - 1) (by omega), (Out.refl F w).setCell (.inl h.fd) _⟩)
      clear h h1 h2
      go_enter Try.func54, Try.ntmps54
      go_wp2
      go_ret
      exact ⟨rfl, HH.out⟩
theorem doff (h : Dv F w d S nw vl vp vn) : Calls Try.prog 25 #[.pointer (some ⟨d, 0, none⟩)] w fun e w' => e = .returned (.bool S.off) ∧ w = w' := by
  have c3 := h.c3
  go_enter Try.func25, Try.ntmps25
  go_wp2_with (go_at_call 49; refine (dmade h).mono ?_; rintro e w' ⟨rfl, rfl⟩)
  go_ret
  exact ⟨rfl, rfl⟩
theorem dblocks (h : Dv F w d S nw vl vp vn) : Calls Try.prog 39 #[.pointer (some ⟨d, 0, none⟩)] w fun e w' => e = .returned (.int .i64 (S.last.length : Int)) ∧ w = w' := by
  have hm := dmade h
  obtain ⟨g, cap, rfl, hF, hgd⟩ := h.lform
  have c0 := h.c0
  go_enter Try.func39, Try.ntmps39
  go_wp2_with (go_at_call 49; refine hm.mono ?_; rintro e w' ⟨rfl, rfl⟩)
  go_ret
  exact ⟨rfl, rfl⟩
theorem dcounts (h : Dv F w d S nw vl vp vn) : Calls Try.prog 36 #[.pointer (some ⟨d, 0, none⟩)] w fun e w' => e = .returned (.tuple #[.int .i64 S.writes, .int .i64 S.syncs]) ∧ w' = w.drew := by
  have c5 := h.c5
  have c6 := h.c6
  go_enter Try.func36, Try.ntmps36
  go_wp2_with (first
    | (go_at_call 49; refine (dmade h).mono ?_; rintro e w' ⟨rfl, rfl⟩)
    | go_still (by kernel_rfl))
  go_ret2
  exact ⟨rfl, rfl⟩
theorem dplan (h : Dv F w d S nw vl vp vn) (n : Int) (hn : -9223372036854775808 ≤ n ∧ n ≤ 9223372036854775807) : Calls Try.prog 18 #[.pointer (some ⟨d, 0, none⟩), .int .i64 n] w fun e w' => e = .returned (.int .i64 (if S.off then 22 else 0)) ∧ Dv F w' d (if S.off then S else { S with plan := max n (-1) }) nw vl vp vn ∧ Out F w w' := by
  have r := drefusesAll h
  have c4 := h.c4
  have f4 := h.frozen 4
  have HH := Lib.hid (show Dv F (w.setCell ⟨d, 4, none⟩ (.int .i64 (max n (-1)))) d { S with plan := max n (-1) } nw vl vp vn ∧ Out F w (w.setCell ⟨d, 4, none⟩ (.int .i64 (max n (-1)))) from ⟨h.setPlan (max n (-1)) (by omega), (Out.refl F w).setCell (.inl h.fd) _⟩)
  cases ho : S.off with
  | true =>
    rw [ho] at r
    have H0 := Lib.hid h
    clear h
    go_enter Try.func18, Try.ntmps18
    go_wp2_with (go_at_call 55; refine r.mono ?_; rintro e w' ⟨rfl, rfl⟩)
    go_ret
    exact ⟨rfl, H0.out, Out.refl _ _⟩
  | false =>
    rw [ho] at r
    clear h
    rcases Int.lt_or_le n (-1) with h1 | h1
    · rw [show max n (-1) = -1 by omega, ho] at HH
      rw [show max n (-1) = -1 by omega]
      go_enter Try.func18, Try.ntmps18
      go_wp2_with (go_at_call 55; refine r.mono ?_; rintro e w' ⟨rfl, rfl⟩)
      all_goals first | (exfalso; omega) | skip
      go_ret
      exact ⟨rfl, HH.out⟩
    · rw [show max n (-1) = n by omega, ho] at HH
      rw [show max n (-1) = n by omega]
      go_enter Try.func18, Try.ntmps18
      go_wp2_with (go_at_call 55; refine r.mono ?_; rintro e w' ⟨rfl, rfl⟩)
      all_goals first | (exfalso; omega) | skip
      go_ret
      exact ⟨rfl, HH.out⟩
end
end Go.Proofs.Ytapjgancaldgaaa

/- The call of forget. -/
namespace Go.Proofs.Ytapjgancaldgaaa
set_option maxRecDepth 100000
open Go.RowKit

section
variable {F : Nat → Prop} {w : World} {d : Nat} {S : St} {nw : List Int} {vl vp vn : Value}
/-- A pending write where it lies. -/
theorem Dv.pendAt {g cap : Nat} (h : Dv F w d S nw vl (.slice (some ⟨g, 0, none⟩) S.pend.length cap) vn) {k : Nat} {x : Wr} (hk : S.pend[k]? = some x) : w.rangeAt g (k * 65) x.cells := by
  have hlt : k < S.pend.length := (List.getElem?_eq_some_iff.1 hk).1
  have hx : S.pend[k] = x := (List.getElem?_eq_some_iff.1 hk).2
  have := own_range h.pend (k * 65) 65
  rw [flat_part S.pend (fun y hy => Wr.len (h.wf.pb y hy)) k hlt, hx] at this
  exact this
theorem Dv.lastAt {g cap : Nat} (h : Dv F w d S nw (.slice (some ⟨g, 0, none⟩) S.last.length cap) vp vn) {k : Nat} {c : Cn} (hk : S.last[k]? = some c) : w.rangeAt g (k * 65) c.cells := by
  have hlt : k < S.last.length := (List.getElem?_eq_some_iff.1 hk).1
  have hx : S.last[k] = c := (List.getElem?_eq_some_iff.1 hk).2
  have := own_range h.last (k * 65) 65
  rw [flat_part S.last (fun y hy => Cn.len (h.wf.lb y hy)) k hlt, hx] at this
  exact this
theorem Dv.newAt {g cap : Nat} (h : Dv F w d S nw vl vp (.slice (some ⟨g, 0, none⟩) S.last.length cap)) {k : Nat} (hk : k < S.last.length) : w.cell? ⟨g, k, none⟩ = some (.int .i64 (nw.getD k 0)) := by
  have hl := h.nwl
  rw [h.newest.cellAt k (by omega)]
  simp [List.getD_eq_getElem?_getD, List.getElem?_eq_getElem (show k < nw.length by omega)]
theorem Dv.newFree {g cap : Nat} (h : Dv F w d S nw vl vp (.slice (some ⟨g, 0, none⟩) S.last.length cap)) (k : Nat) : w.frozen? ⟨g, k, none⟩ = false := h.newest.frozenAt k
end

/-- The newest numbers with those of the writes xs struck. -/
def struck (nw : List Int) (xs : List Wr) : List Int := xs.foldl (fun l x => l.set x.p 0) nw
theorem struck_snoc (nw : List Int) (xs : List Wr) (x : Wr) : struck nw (xs ++ [x]) = (struck nw xs).set x.p 0 := by simp [struck]
theorem struck_len (xs : List Wr) : ∀ nw, (struck nw xs).length = nw.length := by
  induction xs with
  | nil => intro nw; rfl
  | cons x r ih => intro nw; show (struck (nw.set x.p 0) r).length = _; rw [ih]; simp
theorem struck_zero (xs : List Wr) : ∀ (nw : List Int) (n : Nat), (nw.getD n 0 = 0 ∨ ∃ x ∈ xs, x.p = n) → (struck nw xs).getD n 0 = 0 := by
  induction xs with
  | nil => intro nw n h; rcases h with h | ⟨x, hx, _⟩; exact h; cases hx
  | cons x r ih =>
    intro nw n h
    refine ih (nw.set x.p 0) n ?_
    by_cases e : x.p = n
    · left
      subst e
      simp only [List.getD_eq_getElem?_getD, List.getElem?_set]
      split
      · split <;> rfl
      · contradiction
    · rcases h with h | ⟨y, hy, hyn⟩
      · left
        simp only [List.getD_eq_getElem?_getD, List.getElem?_set] at h ⊢
        rw [if_neg e]; exact h
      · rcases List.mem_cons.1 hy with rfl | hy
        · exact absurd hyn e
        · exact .inr ⟨y, hy, hyn⟩

def ForgetIs (F : Nat → Prop) (w : World) (d : Nat) (S : St) (vl vn : Value) (nw : List Int) (e : Ending) (w' : World) : Prop :=
  e = .returned (.tuple #[]) ∧ Dv F w' d { S with pend := [] } (struck nw S.pend) vl (.slice none 0 0) vn ∧ Out F w w'

theorem forget_laid {F : Nat → Prop} {w : World} {d : Nat} {S : St} {nw : List Int} {vl vp vn : Value} (h : Dv F w d S nw vl vp vn) (x : Wr) (hx : B64 x.b) :
    (storeCells ⟨w.heap.size, 0, none⟩ x.cells 0).run Try.prog (w.alloc (.cells z83 100)) = .ok () (w.alloc (.cells x.cells.toArray 100)) := by
  have := run_storeNew (P := Try.prog) w 100 z83 x.cells.toArray _ (by rfl) (by simp [Wr.len hx]; rfl) (by simp [Wr.len hx, z83_size]) (by simpa using Wr.one _)
  simpa using this

theorem dforget {F : Nat → Prop} {w : World} {d : Nat} {S : St} {nw : List Int} {vl vp vn : Value} (h : Dv F w d S nw vl vp vn) (hm : S.pend.length ≤ 4398046511104) :
    Calls Try.prog 57 #[.pointer (some ⟨d, 0, none⟩)] w (ForgetIs F w d S vl vn nw) := by
  have c1 := h.c1
  obtain ⟨gn, cn, rfl, -, -⟩ := h.nform
  rcases h.pform with ⟨hp0, rfl⟩ | ⟨gp, cp, rfl, hpos, -, -⟩
  · have f1 := h.frozen 1
    have HE := Lib.hid (show Dv F (w.setCell ⟨d, 1, none⟩ (.slice none 0 0)) d { S with pend := [] } (struck nw S.pend) vl (.slice none 0 0) (.slice (some ⟨gn, 0, none⟩) S.last.length cn) ∧ Out F w (w.setCell ⟨d, 1, none⟩ (.slice none 0 0)) by rw [hp0]; exact ⟨h.setNone, (Out.refl F w).setCell (.inl h.fd) _⟩)
    clear h hp0
    go_enter Try.func57, Try.ntmps57
    go_wp2
    go_loopw [3, 9] (fun _ i wr => i = .int .i64 0 ∧ w = wr) (fun _ _ _ => 0)
    case atStart => exact ⟨rfl, rfl⟩
    case round =>
      obtain ⟨rfl, rfl⟩ := hrel
      go_wp2
      go_end0
      exact ⟨rfl, HE.out⟩
  · have H0 := Lib.hid h
    clear h
    go_enter Try.func57, Try.ntmps57
    go_wp2
    go_loopw [3, 9] (fun _ i wr => ∃ k : Nat, i = .int .i64 (k : Nat) ∧ k ≤ S.pend.length ∧ Dv F wr d S (struck nw (S.pend.take k)) vl (.slice (some ⟨gp, 0, none⟩) S.pend.length cp) (.slice (some ⟨gn, 0, none⟩) S.last.length cn) ∧ Out F w wr) (fun _ i _ => S.pend.length - (intOf i).toNat)
    case atStart => exact ⟨0, rfl, Nat.zero_le _, H0.out, Out.refl _ _⟩
    case round =>
      obtain ⟨k, rfl, hk, hd, ho⟩ := hrel
      by_cases hlt : k < S.pend.length
      · obtain ⟨x, hx⟩ : ∃ x, S.pend[k]? = some x := ⟨_, List.getElem?_eq_getElem hlt⟩
        have hxm : x ∈ S.pend := List.mem_of_getElem? hx
        have hxb := hd.wf.pb x hxm
        have hxp := hd.wf.pp x hxm
        have HR := Lib.hid (hd.pendAt hx)
        have HI := Lib.hid (show (Try.prog.info? 100).map (·.size) = some x.cells.length by rw [Wr.len hxb]; rfl)
        have hz := run_zero83
        have hst := forget_laid hd x hxb
        have hcl := Wr.len hxb
        have hd1 := hd.alloc (.cells x.cells.toArray 100)
        have ho1 := ho.alloc (.cells x.cells.toArray 100)
        have c0 : (wr.alloc (.cells x.cells.toArray 100)).cell? ⟨wr.heap.size, 0, none⟩ = some (.int .i64 (x.p : Int)) := by rw [cell_of_row _ _ _ _ _ _ (heap_alloc_new _ _)]; rfl
        generalize wr.alloc (.cells x.cells.toArray 100) = W1 at hst hd1 ho1 c0
        have c2 := hd1.c2
        have c3 := hd1.newAt hxp
        have f3 := hd1.newFree x.p
        have hd2 := (hd1.drew).setNew x.p 0
        have ho2 := ho1.drew.setCell (p := ⟨gn, x.p, none⟩) (.inl (hd.fn gn rfl).1) (.int .i64 0)
        have hi1 : (x.p : Int) < (S.last.length : Int) := by omega
        rw [← struck_snoc, ← (show S.pend.take (k + 1) = S.pend.take k ++ [x] by rw [List.take_add_one, hx]; rfl)] at hd2
        have HD := Lib.hid hd2
        have HO := Lib.hid ho2
        have hi2 : (k : Int) < (S.pend.length : Int) := by omega
        clear hd1 ho1 hd2 ho2 hd ho hxm
        go_wp2_with (with_reducible refine wpList_load_mid rfl 100 (.tmp 11) rfl gp (k * 65) rfl x.cells _ HR.out Try.underlying100 rfl HI.out ?_)
        clear HR HI hz hst
        refine wp_region_still_tail 7 (by kernel_rfl) (by kernel_rfl) ?_
        simp only [List.take_succ_cons, List.take_zero, List.drop_succ_cons, List.drop_zero]
        change wpStill _ _ W1.drew _ _ _
        iterate 7 still_step
        refine wpStill_nil ?_
        change wpList _ _ _ _ _ W1.drew
        go_wp2
        go_roundw
        case rel => exact ⟨k + 1, by go_num, hlt, HD.out, HO.out⟩
        case measure => simp [intOf]; omega
      · obtain rfl : k = S.pend.length := by omega
        have f1 := hd.frozen 1
        have c1' := hd.c1
        rw [List.take_length] at hd
        have HE := Lib.hid (show Dv F (wr.setCell ⟨d, 1, none⟩ (.slice none 0 0)) d { S with pend := [] } (struck nw S.pend) vl (.slice none 0 0) (.slice (some ⟨gn, 0, none⟩) S.last.length cn) ∧ Out F w (wr.setCell ⟨d, 1, none⟩ (.slice none 0 0)) from ⟨hd.setNone, ho.setCell (.inl hd.fd) _⟩)
        clear hd ho
        go_wp2
        go_end0
        exact ⟨rfl, HE.out⟩
end Go.Proofs.Ytapjgancaldgaaa

/- The call of Sync. -/
namespace Go.Proofs.Ytapjgancaldgaaa
set_option maxRecDepth 100000
open Go.RowKit

/-- F, and whatever was made since w. -/
def Gr (F : Nat → Prop) (w : World) : Nat → Prop := fun k => F k ∨ w.heap.size ≤ k

/-- The writes laid over the blocks, in order; keep says of each what becomes of it. -/
def layAll : List Cn → List Wr → List Int → List Cn
  | l, x :: xs, k :: ks => layAll (settleL l x k) xs ks
  | l, _, _ => l
theorem settleL_len (l : List Cn) (x : Wr) (k : Int) : (settleL l x k).length = l.length := by unfold settleL; split <;> (try split) <;> simp
theorem layAll_len : ∀ (xs : List Wr) (ks : List Int) (l : List Cn), (layAll l xs ks).length = l.length
  | [], ks, l => by cases ks <;> rfl
  | x :: xs, [], l => rfl
  | x :: xs, k :: ks, l => by rw [layAll, layAll_len xs ks, settleL_len]
theorem layAll_snoc : ∀ (xs : List Wr) (ks : List Int) (l : List Cn) (x : Wr) (k : Int), xs.length = ks.length → layAll l (xs ++ [x]) (ks ++ [k]) = settleL (layAll l xs ks) x k
  | [], [], l, x, k, _ => rfl
  | y :: xs, j :: ks, l, x, k, h => by
    show layAll (settleL l y j) (xs ++ [x]) (ks ++ [k]) = _
    rw [layAll_snoc xs ks _ x k (by simpa using h)]; rfl
  | [], _ :: _, _, _, _, h => by simp at h
  | _ :: _, [], _, _, _, h => by simp at h
def ones (n : Nat) : List Int := List.replicate n 1
theorem ones_succ (n : Nat) : ones (n + 1) = ones n ++ [1] := by simp [ones, List.replicate_succ']

theorem Dv.pgen {F : Nat → Prop} {w : World} {d : Nat} {S : St} {nw : List Int} {vl vp vn : Value} (h : Dv F w d S nw vl vp vn) : ∃ A cap, vp = .slice A S.pend.length cap ∧ (0 < S.pend.length → ∃ g, A = some ⟨g, 0, none⟩) := by
  rcases h.pform with ⟨h0, rfl⟩ | ⟨g, cap, rfl, h0, _⟩
  · exact ⟨none, 0, by rw [h0]; rfl, fun h => by rw [h0] at h; simp at h⟩
  · exact ⟨_, cap, rfl, fun _ => ⟨g, rfl⟩⟩

def syncS (S : St) : St := if S.off then S else if S.plan = 0 then spendS S else { spendS S with last := layAll S.last S.pend (ones S.pend.length), pend := [], syncs := wrap64 (S.syncs + 1) }
def syncE (S : St) : Int := if S.off then 22 else spendE S

/-- What a call leaves that answers a code. -/
def Codes (F : Nat → Prop) (w : World) (d : Nat) (S' : St) (c : Int) (e : Ending) (w' : World) : Prop :=
  e = .returned (.int .i64 c) ∧ PD (Gr F w) w' d S' ∧ Out F w w'
theorem codes {F : Nat → Prop} {w w' : World} {d : Nat} {S' : St} {c : Int} {nw : List Int} {vl vp vn : Value} (h : Dv F w' d S' nw vl vp vn) (hn : NwOk S' nw) (ho : Out F w w') : Codes F w d S' c (.returned (.int .i64 c)) w' :=
  ⟨rfl, ⟨nw, vl, vp, vn, h.mono fun _ _ hf => .inl hf, hn⟩, ho⟩
theorem nwok_none {S S' : St} {nw : List Int} (h : NwOk S nw) (hl : S'.last.length = S.last.length) (hp : S'.pend = []) : NwOk S' (struck nw S.pend) := fun n hn => by
  left
  refine ⟨struck_zero S.pend nw n ?_, by rw [hp]; simp⟩
  rcases h n (by omega) with h1 | ⟨j, x, _, h2, h3, _⟩
  · exact .inl h1.1
  · exact .inr ⟨x, List.mem_of_getElem? h2, h3⟩
theorem nwok_same {S S' : St} {nw : List Int} (h : NwOk S nw) (hl : S'.last.length = S.last.length) (hp : S'.pend = S.pend) : NwOk S' nw := fun n hn => by
  rw [hp]; exact h n (by omega)

set_option maxHeartbeats 1000000 in
theorem dsync {F : Nat → Prop} {w : World} {d : Nat} {S : St} (h : PD F w d S) (hm : S.pend.length ≤ 4398046511104) :
    Calls Try.prog 19 #[.pointer (some ⟨d, 0, none⟩)] w (Codes F w d (syncS S) (syncE S)) := by
  obtain ⟨nw, vl, vp, vn, h, hn⟩ := h
  have r := drefusesAll h
  have sp := dspend h
  unfold syncS syncE
  cases ho : S.off with
  | true =>
    rw [ho] at r
    simp only [if_true] at r ⊢
    have HE := Lib.hid (codes (c := 22) h hn (Out.refl F w))
    clear h hn sp
    go_enter Try.func19, Try.ntmps19
    go_wp2_with (go_at_call 55; refine r.mono ?_; rintro e w' ⟨rfl, rfl⟩)
    go_ret
    exact HE.out
  | false =>
    rw [ho] at r
    simp only [Bool.false_eq_true, if_false] at r ⊢
    by_cases hz : S.plan = 0
    · have he : spendE S = 22 := by unfold spendE; rw [if_pos hz]
      rw [he] at sp ⊢
      rw [if_pos hz]
      have HN := Lib.hid (nwok_same (S' := spendS S) hn (by rw [spendS_last]) (spendS_pend S))
      clear h hn hz he
      go_enter Try.func19, Try.ntmps19
      go_wp2_with (first
        | (go_at_call 55; refine r.mono ?_; rintro e w' ⟨rfl, rfl⟩)
        | (go_at_call 54; refine sp.mono ?_; rintro e w1 ⟨rfl, h1, o1⟩; have H1 := Lib.hid h1; have O1 := Lib.hid o1; clear h1 o1))
      go_ret
      exact codes H1.out HN.out O1.out
    · have he : spendE S = 0 := by unfold spendE; rw [if_neg hz]
      rw [he] at sp ⊢
      rw [if_neg hz]
      obtain ⟨T, hT⟩ : ∃ T, T = spendS S := ⟨_, rfl⟩
      have hl : S.last = T.last := by rw [hT, spendS_last]
      have hp : S.pend = T.pend := by rw [hT, spendS_pend]
      have hsy : S.syncs = T.syncs := by rw [hT]; unfold spendS; split <;> (try split) <;> rfl
      rw [← hT] at sp ⊢
      rw [hl, hp, hsy]
      rw [hp] at hm
      have HN := Lib.hid (nwok_same (S' := T) hn (by rw [hl]) hp.symm)
      obtain ⟨A, cap, rfl, hA⟩ := h.pgen
      rw [hp] at hA sp
      clear h hn hz he hT hl hp hsy ho
      go_enter Try.func19, Try.ntmps19
      go_wp2_with (first
        | (go_at_call 55; refine r.mono ?_; rintro e w' ⟨rfl, rfl⟩)
        | (go_at_call 54; refine sp.mono ?_; rintro e w1 ⟨rfl, h1, o1⟩; have c1 := h1.c1; have H1 := Lib.hid h1; have O1 := Lib.hid o1; clear h1 o1))
      clear sp r
      go_loopw [6, 22] (fun _ i wr => ∃ k : Nat, i = .int .i64 (k : Nat) ∧ k ≤ T.pend.length ∧ Dv F wr d { T with last := layAll T.last (T.pend.take k) (ones k) } nw vl (.slice A T.pend.length cap) vn ∧ Out F w wr) (fun _ i _ => T.pend.length - (intOf i).toNat)
      case atStart => exact ⟨0, rfl, Nat.zero_le _, H1.out, O1.out⟩
      case round =>
        obtain ⟨k, rfl, hk, hd, ho⟩ := hrel
        by_cases hlt : k < T.pend.length
        · obtain ⟨g, rfl⟩ := hA (by omega)
          obtain ⟨x, hx⟩ : ∃ x, T.pend[k]? = some x := ⟨_, List.getElem?_eq_getElem hlt⟩
          have hxm : x ∈ T.pend := List.mem_of_getElem? hx
          have hxb := hd.wf.pb x hxm
          have hxp := hd.wf.pp x hxm
          have HR := Lib.hid (hd.pendAt (x := x) hx)
          have HI := Lib.hid (show (Try.prog.info? 100).map (·.size) = some x.cells.length by rw [Wr.len hxb]; rfl)
          have hz := run_zero83
          have hst := forget_laid hd x hxb
          have hcl := Wr.len hxb
          have hd1 := hd.alloc (.cells x.cells.toArray 100)
          have ho1 := ho.alloc (.cells x.cells.toArray 100)
          have HR1 := Lib.hid (show (wr.alloc (.cells x.cells.toArray 100)).rangeAt wr.heap.size 0 x.cells from fun j v hv => by rw [cell_of_row _ _ _ _ _ _ (heap_alloc_new _ _)]; simpa using hv)
          generalize wr.alloc (.cells x.cells.toArray 100) = W1 at hst hd1 ho1 HR1
          have hi2 : (k : Int) < (T.pend.length : Int) := by omega
          have se := dsettle hd1 x hxb hxp 1 (by omega)
          have HL := Lib.hid (show settleL (layAll T.last (T.pend.take k) (ones k)) x 1 = layAll T.last (T.pend.take (k + 1)) (ones (k + 1)) by rw [ones_succ, List.take_add_one, hx]; exact (layAll_snoc _ _ _ _ _ (by simp [ones]; omega)).symm)
          have O2 := Lib.hid ho1
          clear hd1 ho1 hd ho hxm hxp hx
          go_wp2_with (first
            | (with_reducible refine wpList_load_mid rfl 100 (.tmp 24) rfl g (k * 65) rfl x.cells _ HR.out Try.underlying100 rfl HI.out ?_)
            | (with_reducible refine wpList_load_mid rfl 100 (.tmp 6) rfl wr.heap.size 0 rfl x.cells _ HR1.out Try.underlying100 rfl HI.out ?_)
            | (go_at_call 56; refine se.mono ?_; rintro e w3 ⟨rfl, h3, o3⟩; have H3 := Lib.hid h3; have O3 := Lib.hid o3; clear h3 o3))
          go_roundw
          case rel =>
            have h3 := H3.out
            rw [HL.out] at h3
            exact ⟨k + 1, by go_num, hlt, h3, O2.out.then O3.out⟩
          case measure => simp [intOf]; omega
        · obtain rfl : k = T.pend.length := by omega
          rw [List.take_length] at hd
          have fg := dforget hd hm
          have HN2 := Lib.hid (nwok_none (S' := { T with last := layAll T.last T.pend (ones T.pend.length), pend := [], syncs := wrap64 (T.syncs + 1) }) HN.out (layAll_len _ _ _) rfl)
          have O2 := Lib.hid ho
          clear hd ho
          go_wp2_with (go_at_call 57; refine fg.mono ?_; rintro e w4 ⟨rfl, h4, o4⟩; have c6 := h4.c6; have f6 := h4.frozen 6; have H4 := Lib.hid (h4.setSyncs (wrap64 (T.syncs + 1))); have O4 := Lib.hid ((O2.out.then o4).setCell (p := ⟨d, 6, none⟩) (.inl h4.fd) (.int .i64 (wrap64 (T.syncs + 1)))); clear h4 o4)
          go_ret
          exact codes H4.out HN2.out O4.out
end Go.Proofs.Ytapjgancaldgaaa
