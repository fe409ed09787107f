import Derived.Test.YthpbcibjohakkaaJAB
import Derived.Deep.WholeRow
import Derived.StillTailTactics
import Derived.Great.BuildSlice
import Derived.Deep.DeepCutAuto
import Derived.Lib.Hide
/- A disk's state in words of plain lists, and how it lies in memory. -/
namespace Go.Proofs.Ythpbcibjohakkaa
set_option maxRecDepth 100000
open Go.RowKit

/-- What is lasting of a block. -/
structure Cn where
  b : List Int
  t : Bool
/-- A write that waits. -/
structure Wr where
  p : Nat
  b : List Int
structure St where
  last : List Cn
  pend : List Wr
  off : Bool
  plan : Int
  writes : Int
  syncs : Int

def bc (zs : List Int) : List Value := zs.map (Value.int .u8)
def Cn.cells (c : Cn) : List Value := bc c.b ++ [.bool c.t]
def Wr.cells (x : Wr) : List Value := .int .i64 (x.p : Int) :: bc x.b
/-- 64 bytes. -/
structure B64 (zs : List Int) : Prop where
  len : zs.length = 64
  byte : ∀ z ∈ zs, 0 ≤ z ∧ z ≤ 255
theorem bc_len (zs : List Int) : (bc zs).length = zs.length := by simp [bc]
theorem Cn.len {c : Cn} (h : B64 c.b) : c.cells.length = 65 := by simp [Cn.cells, bc_len, h.len]
theorem Wr.len {x : Wr} (h : B64 x.b) : x.cells.length = 65 := by simp [Wr.cells, bc_len, h.len]
def zero64 : List Int := List.replicate 64 0
theorem b64_zero : B64 zero64 := ⟨by simp [zero64], fun z hz => by simp [zero64] at hz; omega⟩

/-- What a state's lists keep. -/
structure Wf (S : St) : Prop where
  lo : 1 ≤ S.last.length
  hi : S.last.length ≤ 16384
  lb : ∀ c ∈ S.last, B64 c.b
  pb : ∀ x ∈ S.pend, B64 x.b
  pp : ∀ x ∈ S.pend, x.p < S.last.length
  pl : -1 ≤ S.plan ∧ S.plan ≤ 9223372036854775807

/-- The disk at block d holds S; its newest numbers are nw; its blocks are among F. -/
structure Dv (F : Nat → Prop) (w : World) (d : Nat) (S : St) (nw : List Int) (vl vp vn : Value) : Prop where
  wf : Wf S
  blk : w.heap[d]? = some (.cells #[vl, vp, vn, .bool S.off, .int .i64 S.plan, .int .i64 S.writes, .int .i64 S.syncs] 66 (0, 0))
  last : w.ownsRow 0 72 65 vl S.last.length (S.last.flatMap Cn.cells)
  pend : w.ownsRow 0 81 65 vp S.pend.length (S.pend.flatMap Wr.cells)
  newest : w.ownsRow 0 3 1 vn S.last.length (nw.map (Value.int .i64))
  pnil : S.pend = [] → vp = .slice none 0 0
  fd : F d
  fl : ∀ k, vl.ownBlock = some k → F k ∧ k ≠ d
  fp : ∀ k, vp.ownBlock = some k → F k ∧ k ≠ d ∧ vl.ownBlock ≠ some k
  fn : ∀ k, vn.ownBlock = some k → F k ∧ k ≠ d ∧ vl.ownBlock ≠ some k ∧ vp.ownBlock ≠ some k

/-- The newest numbers say where each block's last pending write stands, counted from 1. -/
def NwOk (S : St) (nw : List Int) : Prop := ∀ n, n < S.last.length →
  (nw.getD n 0 = 0 ∧ ∀ x ∈ S.pend, x.p ≠ n) ∨ ∃ (j : Nat) (x : Wr), nw.getD n 0 = (j : Int) + 1 ∧ S.pend[j]? = some x ∧ x.p = n ∧ ∀ (i : Nat) (y : Wr), j < i → S.pend[i]? = some y → y.p ≠ n

/-- A disk that a call made. -/
def PD (F : Nat → Prop) (w : World) (d : Nat) (S : St) : Prop := ∃ nw vl vp vn, Dv F w d S nw vl vp vn ∧ NwOk S nw

section
variable {F F' : Nat → Prop} {w w' : World} {d : Nat} {S : St} {nw : List Int} {vl vp vn : Value}
theorem Dv.nwl (h : Dv F w d S nw vl vp vn) : nw.length = S.last.length := by have := h.newest.1; simpa using this
theorem Dv.dlt (h : Dv F w d S nw vl vp vn) : d < w.heap.size := (Array.getElem?_eq_some_iff.1 h.blk).1
theorem Dv.stays (h : Dv F w d S nw vl vp vn) (hk : ∀ k, k < w.heap.size → F k → w'.heap[k]? = w.heap[k]?) : Dv F w' d S nw vl vp vn :=
  ⟨h.wf, (hk d h.dlt h.fd).trans h.blk, own_stays h.last fun k e => hk k (h.last.lt k e).2 (h.fl k e).1, own_stays h.pend fun k e => hk k (h.pend.lt k e).2 (h.fp k e).1,
    own_stays h.newest fun k e => hk k (h.newest.lt k e).2 (h.fn k e).1, h.pnil, h.fd, h.fl, h.fp, h.fn⟩
theorem Dv.mono (h : Dv F w d S nw vl vp vn) (hF : ∀ k, k < w.heap.size → F k → F' k) : Dv F' w d S nw vl vp vn :=
  ⟨h.wf, h.blk, h.last, h.pend, h.newest, h.pnil, hF d h.dlt h.fd, fun k e => ⟨hF k (h.last.lt k e).2 (h.fl k e).1, (h.fl k e).2⟩,
    fun k e => ⟨hF k (h.pend.lt k e).2 (h.fp k e).1, (h.fp k e).2⟩, fun k e => ⟨hF k (h.newest.lt k e).2 (h.fn k e).1, (h.fn k e).2⟩⟩
theorem Dv.drew (h : Dv F w d S nw vl vp vn) : Dv F w.drew d S nw vl vp vn := ⟨h.wf, h.blk, h.last.drew, h.pend.drew, h.newest.drew, h.pnil, h.fd, h.fl, h.fp, h.fn⟩
theorem Dv.alloc (h : Dv F w d S nw vl vp vn) (o : Obj) : Dv F (w.alloc o) d S nw vl vp vn := h.stays fun k hk _ => Below.heap_alloc _ _ _ hk
theorem Dv.below (h : Dv F w d S nw vl vp vn) (hb : Below w.heap.size w w') : Dv F w' d S nw vl vp vn := h.stays fun k hk _ => hb.block k hk
theorem Dv.out {G : Nat → Prop} (h : Dv F w d S nw vl vp vn) (ho : Out G w w') (hd : ∀ k, F k → ¬ G k) : Dv F w' d S nw vl vp vn := h.stays fun k hk hf => ho.block k hk (hd k hf)
theorem Dv.cell (h : Dv F w d S nw vl vp vn) (j : Nat) : w.cell? ⟨d, j, none⟩ = #[vl, vp, vn, .bool S.off, .int .i64 S.plan, .int .i64 S.writes, .int .i64 S.syncs][j]? := cell_of_row w d j _ _ _ h.blk
theorem Dv.frozen (h : Dv F w d S nw vl vp vn) (j : Nat) : w.frozen? ⟨d, j, none⟩ = false := frozen_of_row w d j _ _ h.blk
/-- vl as it looks. -/
theorem Dv.lform (h : Dv F w d S nw vl vp vn) : ∃ g cap, vl = .slice (some ⟨g, 0, none⟩) S.last.length cap ∧ F g ∧ g ≠ d := by
  obtain ⟨g, cap, hv, _, _⟩ := h.last.form (by have := h.wf.lo; omega)
  exact ⟨g, cap, hv, (h.fl g (by rw [hv]; rfl)).1, (h.fl g (by rw [hv]; rfl)).2⟩
theorem Dv.nform (h : Dv F w d S nw vl vp vn) : ∃ g cap, vn = .slice (some ⟨g, 0, none⟩) S.last.length cap ∧ F g ∧ g ≠ d := by
  obtain ⟨g, cap, hv, _, _⟩ := h.newest.form (by have := h.wf.lo; omega)
  exact ⟨g, cap, hv, (h.fn g (by rw [hv]; rfl)).1, (h.fn g (by rw [hv]; rfl)).2.1⟩
theorem Dv.pform (h : Dv F w d S nw vl vp vn) : (S.pend = [] ∧ vp = .slice none 0 0) ∨ ∃ g cap, vp = .slice (some ⟨g, 0, none⟩) S.pend.length cap ∧ 0 < S.pend.length ∧ F g ∧ g ≠ d := by
  rcases Nat.eq_zero_or_pos S.pend.length with h0 | h0
  · have := List.eq_nil_of_length_eq_zero h0
    exact .inl ⟨this, h.pnil this⟩
  · obtain ⟨g, cap, hv, _, _⟩ := h.pend.form h0
    exact .inr ⟨g, cap, hv, h0, (h.fp g (by rw [hv]; rfl)).1, (h.fp g (by rw [hv]; rfl)).2.1⟩

/-- Another header over the same rows. -/
theorem Dv.head (h : Dv F w d S nw vl vp vn) (w2 : World) (S' : St) (hl : S'.last = S.last) (hp : S'.pend = S.pend) (hw : -1 ≤ S'.plan ∧ S'.plan ≤ 9223372036854775807)
    (hb : w2.heap[d]? = some (.cells #[vl, vp, vn, .bool S'.off, .int .i64 S'.plan, .int .i64 S'.writes, .int .i64 S'.syncs] 66 (0, 0)))
    (ho : ∀ k, k ≠ d → w2.heap[k]? = w.heap[k]?) : Dv F w2 d S' nw vl vp vn := by
  refine ⟨⟨by rw [hl]; exact h.wf.lo, by rw [hl]; exact h.wf.hi, by rw [hl]; exact h.wf.lb, by rw [hp]; exact h.wf.pb, by rw [hp, hl]; exact h.wf.pp, hw⟩, hb, ?_, ?_, ?_, by rw [hp]; exact h.pnil, h.fd, h.fl, h.fp, h.fn⟩
  · rw [hl]; exact own_stays h.last fun k e => ho k (h.fl k e).2
  · rw [hp]; exact own_stays h.pend fun k e => ho k (h.fp k e).2.1
  · rw [hl]; exact own_stays h.newest fun k e => ho k (h.fn k e).2.1
theorem blk_set {w : World} {d : Nat} {cs : Array Value} {t : TypeId} (h : w.heap[d]? = some (.cells cs t (0, 0))) (j : Nat) (v : Value) : (w.setCell ⟨d, j, none⟩ v).heap[d]? = some (.cells (cs.setIfInBounds j v) t (0, 0)) := heap_setCell_same w d j cs t v h
theorem heap_setCell_ne (w : World) (d j : Nat) (v : Value) : ∀ k, k ≠ d → (w.setCell ⟨d, j, none⟩ v).heap[k]? = w.heap[k]? := fun k hk => Below.heap_setCell _ _ _ _ hk
theorem Dv.setOff (h : Dv F w d S nw vl vp vn) (b : Bool) : Dv F (w.setCell ⟨d, 3, none⟩ (.bool b)) d { S with off := b } nw vl vp vn :=
  h.head _ { S with off := b } rfl rfl h.wf.pl (by rw [blk_set h.blk]; rfl) (heap_setCell_ne _ _ _ _)
theorem Dv.setPlan (h : Dv F w d S nw vl vp vn) (p : Int) (hp : -1 ≤ p ∧ p ≤ 9223372036854775807) : Dv F (w.setCell ⟨d, 4, none⟩ (.int .i64 p)) d { S with plan := p } nw vl vp vn :=
  h.head _ { S with plan := p } rfl rfl hp (by rw [blk_set h.blk]; rfl) (heap_setCell_ne _ _ _ _)
theorem Dv.setWrites (h : Dv F w d S nw vl vp vn) (p : Int) : Dv F (w.setCell ⟨d, 5, none⟩ (.int .i64 p)) d { S with writes := p } nw vl vp vn :=
  h.head _ { S with writes := p } rfl rfl h.wf.pl (by rw [blk_set h.blk]; rfl) (heap_setCell_ne _ _ _ _)
theorem Dv.setSyncs (h : Dv F w d S nw vl vp vn) (p : Int) : Dv F (w.setCell ⟨d, 6, none⟩ (.int .i64 p)) d { S with syncs := p } nw vl vp vn :=
  h.head _ { S with syncs := p } rfl rfl h.wf.pl (by rw [blk_set h.blk]; rfl) (heap_setCell_ne _ _ _ _)
theorem Dv.setNone (h : Dv F w d S nw vl vp vn) : Dv F (w.setCell ⟨d, 1, none⟩ (.slice none 0 0)) d { S with pend := [] } nw vl (.slice none 0 0) vn := by
  have ho := heap_setCell_ne w d 1 (.slice none 0 0)
  exact ⟨⟨h.wf.lo, h.wf.hi, h.wf.lb, by simp, by simp, h.wf.pl⟩, by rw [blk_set h.blk]; rfl, own_stays h.last fun k e => ho k (h.fl k e).2, World.ownsRow_nil _ _ _ _, own_stays h.newest fun k e => ho k (h.fn k e).2.1,
    fun _ => rfl, h.fd, h.fl, fun k e => by simp [Value.ownBlock] at e, fun k e => ⟨(h.fn k e).1, (h.fn k e).2.1, (h.fn k e).2.2.1, by simp [Value.ownBlock]⟩⟩

/-- One lasting block anew. -/
theorem Dv.setLast {g cap : Nat} (h : Dv F w d S nw (.slice (some ⟨g, 0, none⟩) S.last.length cap) vp vn) (i : Nat) (hi : i < S.last.length) (c : Cn) (hc : B64 c.b) :
    Dv F (w.setCells g (i * 65) c.cells) d { S with last := S.last.set i c } nw (.slice (some ⟨g, 0, none⟩) S.last.length cap) vp vn := by
  have ho := heap_setCells g c.cells (i * 65) w
  have hg : ∀ k, k = g → F k ∧ k ≠ d := fun k e => h.fl k (by rw [e]; rfl)
  have hs : ∀ x ∈ S.last, x.cells.length = 65 := fun x hx => Cn.len (h.wf.lb x hx)
  have h1 := own_setCells c.cells (i * 65) h.last
  rw [flat_put S.last hs i hi c (Cn.len hc)] at h1
  refine ⟨⟨by simpa using h.wf.lo, by simpa using h.wf.hi, fun x hx => ?_, h.wf.pb, by simpa using h.wf.pp, h.wf.pl⟩, (ho d (fun e => (hg d e).2 rfl)).trans h.blk, by simpa using h1, own_stays h.pend fun k e => ho k (fun e2 => (h.fp k e).2.2 (by rw [e2]; rfl)),
    by simpa using own_stays h.newest fun k e => ho k (fun e2 => (h.fn k e).2.2.1 (by rw [e2]; rfl)), h.pnil, h.fd, h.fl, h.fp, h.fn⟩
  rcases List.mem_or_eq_of_mem_set hx with hx | rfl
  · exact h.wf.lb x hx
  · exact hc
/-- One newest number anew. -/
theorem Dv.setNew {g cap : Nat} (h : Dv F w d S nw vl vp (.slice (some ⟨g, 0, none⟩) S.last.length cap)) (i : Nat) (z : Int) :
    Dv F (w.setCell ⟨g, i, none⟩ (.int .i64 z)) d S (nw.set i z) vl vp (.slice (some ⟨g, 0, none⟩) S.last.length cap) := by
  have ho := heap_setCell_ne w g i (.int .i64 z)
  have h1 := (h.newest.stored i (.int .i64 z)).1
  refine ⟨h.wf, (ho d (fun e => (h.fn d (by rw [e]; rfl)).2.1 rfl)).trans h.blk, own_stays h.last fun k e => ho k (fun e2 => (h.fn k (by rw [e2]; rfl)).2.2.1 e), own_stays h.pend fun k e => ho k (fun e2 => (h.fn k (by rw [e2]; rfl)).2.2.2 e),
    by rw [List.map_set]; exact h1, h.pnil, h.fd, h.fl, h.fp, h.fn⟩
end
end Go.Proofs.Ythpbcibjohakkaa

/- Whole structs and arrays, out of and into memory, as the walk meets them. -/
namespace Go.Proofs.Ythpbcibjohakkaa
set_option maxRecDepth 100000
open Go.RowKit

theorem run_loadFrom {P : Program} (w : World) (b o n : Nat) (cs : List Value) (hc : w.rangeAt b o cs) (hn : cs.length = n) : (loadCellsFrom ⟨b, o, none⟩ 0 n #[]).run P w = .ok cs.toArray w := by
  subst hn
  have := run_loadCells_list (P := P) w ⟨b, o, none⟩ cs (fun j v hv => by rw [Addr.add_mid]; exact hc j v hv)
  simpa [loadCells] using this
theorem run_storeInto {P : Program} (w : World) (b o : Nat) (cs : List Value) (ht : w.there b o cs.length) (h1 : ∀ v ∈ cs, v.oneCell' = true) : (storeCells ⟨b, o, none⟩ cs 0).run P w = .ok () (w.setCells b o cs) := by
  have := run_storeCells_cells (P := P) b o cs 0 w (fun j hj => by simpa using (ht j hj).1) (fun j hj => by simpa using (ht j hj).2) h1
  simpa using this
theorem run_storeNew {P : Program} (w : World) (t : TypeId) (c c' : Array Value) (i : TypeInfo) (hi : P.info? t = some i) (hs : i.size = c'.size) (ho : c.size = c'.size) (h1 : ∀ v ∈ c'.toList, v.oneCell' = true) :
    (storeCells ⟨w.heap.size, 0, none⟩ c'.toList 0).run P (w.alloc (.cells c t)) = .ok () (w.alloc (.cells c' t)) :=
  run_storeCells_new w t c c' (by simp [hi, hs]) ho (Array.all_eq_true_iff_forall_mem.2 (fun v hv => h1 v (by simpa using hv)))

def z80 : Array Value := (Cn.cells ⟨zero64, false⟩).toArray
def z83 : Array Value := (Wr.cells ⟨0, zero64⟩).toArray
theorem z80_size : z80.size = 65 := by simp [z80, Cn.cells, bc, zero64]
theorem z83_size : z83.size = 65 := by simp [z83, Wr.cells, bc, zero64]
theorem zero80 : (Try.prog.info? 72).map (fun i => (i.zero, i.size)) = some (some (.agg z80), 65) := by kernel_rfl
theorem zero83 : (Try.prog.info? 81).map (fun i => (i.zero, i.size)) = some (some (.agg z83), 65) := by kernel_rfl
theorem info80 : (Try.prog.info? 72).map (fun i => (i.zero, i.size, i.bytes)) = some (some (.agg z80), 65, 65) := by kernel_rfl
theorem info83 : (Try.prog.info? 81).map (fun i => (i.zero, i.size, i.bytes)) = some (some (.agg z83), 65, 72) := by kernel_rfl
theorem run_zero80 (w : World) : (zeroValue 72).run Try.prog w = .ok (.agg z80) w := (zero_of_info zero80).1 w
theorem run_zero83 (w : World) : (zeroValue 81).run Try.prog w = .ok (.agg z83) w := (zero_of_info zero83).1 w
theorem bc_one (zs : List Int) : ∀ v ∈ bc zs, v.oneCell' = true := bytes_oneCell zs
theorem Cn.one (c : Cn) : ∀ v ∈ c.cells, v.oneCell' = true := fun v hv => by
  rcases List.mem_append.1 hv with h | h
  · exact bc_one _ v h
  · simp at h; subst h; rfl
theorem Wr.one (x : Wr) : ∀ v ∈ x.cells, v.oneCell' = true := fun v hv => by
  rcases List.mem_cons.1 hv with rfl | h
  · rfl
  · exact bc_one _ v h
theorem z80_torn : z80.setIfInBounds 64 (.bool true) = (Cn.cells ⟨zero64, true⟩).toArray := by kernel_rfl
theorem fold_get : ∀ (bs : List Value) (z : Array Value) (k j : Nat), k + bs.length ≤ z.size → (List.foldl (fun cs x => cs.setIfInBounds x.snd x.fst) z (bs.zipIdx k))[j]? = if k ≤ j ∧ j < k + bs.length then bs[j - k]? else z[j]?
  | [], z, k, j, h => by simp; omega
  | v :: r, z, k, j, h => by
    simp only [List.zipIdx_cons, List.foldl_cons, List.length_cons] at h ⊢
    rw [fold_get r _ (k + 1) j (by simp; omega)]
    rcases Nat.lt_trichotomy j k with h1 | h1 | h1
    · rw [if_neg (by omega), if_neg (by omega), Array.getElem?_setIfInBounds_ne (by omega)]
    · subst h1
      rw [if_neg (by omega), if_pos (by omega), Array.getElem?_setIfInBounds_self]
      simp; omega
    · by_cases h2 : j < k + (r.length + 1)
      · rw [if_pos (by omega), if_pos (by omega), show j - k = (j - (k + 1)) + 1 by omega, List.getElem?_cons_succ]
      · rw [if_neg (by omega), if_neg (by omega), Array.getElem?_setIfInBounds_ne (by omega)]
/-- A block's bytes in a content's place. -/
theorem fold80 {zs : List Int} (h : B64 zs) : List.foldl (fun cs x => cs.setIfInBounds x.snd x.fst) z80 (bc zs).zipIdx = (Cn.cells ⟨zs, false⟩).toArray := by
  apply Array.ext_getElem?
  intro j
  rw [fold_get _ _ 0 j (by rw [bc_len, h.len, z80_size]; omega), bc_len, h.len]
  by_cases hj : j < 64
  · rw [if_pos (by omega)]
    simp only [List.getElem?_toArray, Cn.cells]
    rw [List.getElem?_append_left (by rw [bc_len, h.len]; exact hj)]
    rfl
  · rw [if_neg (by omega)]
    simp only [List.getElem?_toArray, Cn.cells, z80]
    rw [List.getElem?_append_right (l₁ := bc zero64) (by rw [bc_len, b64_zero.len]; omega), List.getElem?_append_right (l₁ := bc zs) (by rw [bc_len, h.len]; omega), bc_len, bc_len, h.len, b64_zero.len]
/-- A load of a whole struct, in a region whose first operations only read. -/
theorem wpStill_load {P : Program} {ops : Array Oper} {w : World} {Q : Act → Prop} {a : Act} {o : Oper} {rest : List Oper} (hgd : o.guard = none) (ty : TypeId) (x : Operand) (ho : o.op = .load ty x)
    (b off : Nat) (hx : a.eval x = .pointer (some ⟨b, off, none⟩)) (cs : List Value) (d : TypeDesc) (hc : w.rangeAt b off cs) (hu : P.underlying ty = some d) (hd : d.isRow = true) (hi : (P.info? ty).map (·.size) = some cs.length)
    (h : wpStill P ops w Q rest (a.put o.dst (.agg cs.toArray))) : wpStill P ops w Q (o :: rest) a := by
  refine wpStill_step (fun K hK => ?_)
  rw [if_pos (by simp [Region.wanted, hgd])]
  unfold Oper.still execOp
  simp only [ho, hx, Instr.loadAt, Instr.sureAddr, Sem.run_bind, Sem.run_pure, Result.andThen_ok, run_loadVar_mid w b off ty cs d hc hu hd hi, Oper.stillUpon_value]
  exact hK _ h
theorem fold_shift (m : Nat) : ∀ (bs : List Value) (z : Array Value) (k : Nat), List.foldl (fun cs x => cs.setIfInBounds (m + x.snd) x.fst) z (bs.zipIdx k) = List.foldl (fun cs x => cs.setIfInBounds x.snd x.fst) z (bs.zipIdx (m + k))
  | [], _, _ => rfl
  | v :: r, z, k => by
    simp only [List.zipIdx_cons, List.foldl_cons]
    rw [fold_shift m r]; rfl
/-- A place and a block's bytes as a write. -/
theorem fold83 {zs : List Int} (h : B64 zs) (n : Nat) : List.foldl (fun cs x => cs.setIfInBounds (1 + x.snd) x.fst) (z83.setIfInBounds 0 (.int .i64 (n : Int))) (bc zs).zipIdx = (Wr.cells ⟨n, zs⟩).toArray := by
  rw [fold_shift]
  apply Array.ext_getElem?
  intro j
  rw [fold_get _ _ _ j (by rw [bc_len, h.len]; simp [z83_size]), bc_len, h.len]
  by_cases h0 : j = 0
  · subst h0
    rw [if_neg (by omega), Array.getElem?_setIfInBounds_self]
    simp [z83_size, Wr.cells]
  · by_cases hj : j < 65
    · rw [if_pos (by omega)]
      obtain ⟨i, rfl⟩ : ∃ i, j = i + 1 := ⟨j - 1, by omega⟩
      simp [Wr.cells, show i + 1 - (1 + 0) = i by omega]
    · rw [if_neg (by omega), Array.getElem?_eq_none (by simp [z83_size]; omega), Array.getElem?_eq_none]
      have := Wr.len (x := ⟨n, zs⟩) h
      simp [this]; omega
theorem fill_one (cs : List Value) (Z : Array Value) (h : Z.size = cs.length) (hc : cs.length = 65) : Instr.fill (fun i => some (i * 65, 65)) Z [(0, .agg cs.toArray)] = some cs.toArray := by
  have e : List.foldl (fun (cs : Array Value) (x : Value × Nat) => cs.setIfInBounds (0 + x.snd) x.fst) Z cs.zipIdx = cs.toArray := by
    rw [fold_shift]
    apply Array.ext_getElem?
    intro j
    rw [fold_get _ _ _ j (by omega)]
    by_cases hj : j < cs.length
    · rw [if_pos (by omega)]; simp
    · rw [if_neg (by omega), Array.getElem?_eq_none (by omega), Array.getElem?_eq_none (by simp; omega)]
  have hz : Z.size = 65 := by omega
  simp only [Nat.zero_add] at e
  simp [Instr.fill, Value.cells, hc, hz, e]
/-- A slice of one write. -/
theorem wpList_buildOne {ops : Array Oper} {rest : List Oper} {o : Oper} {a : Act} {w : World} {Q : Exit → Act → World → Prop} (hg : o.guard = none) (x : Operand) (ho : o.op = .buildSlice 64 1 #[(0, x)])
    (cs : List Value) (hx : a.eval x = .agg cs.toArray) (hc : cs.length = 65)
    (h : wpList Try.prog ops Q rest (a.put o.dst (.slice (some ⟨w.heap.size, 0, none⟩) 1 1)) (w.alloc (.cells cs.toArray 81))) : wpList Try.prog ops Q (o :: rest) a w := by
  obtain ⟨i0, hi, hz0, hz1⟩ : ∃ i0, Try.prog.info? 81 = some i0 ∧ i0.zero = some (.agg z83) ∧ i0.size = 65 := by
    have := zero83
    cases hq : Try.prog.info? 81 with
    | none => rw [hq] at this; cases this
    | some i => rw [hq] at this; simp at this; exact ⟨i, rfl, this.1, this.2⟩
  refine wpList_buildSlice hg 64 81 1 #[(0, x)] ho cs.toArray i0 (.agg z83) Try.underlying64 hi hz0 (by rw [hz1]; decide) (by rw [hz1]; decide) ?_ h
  rw [hz1]
  simp only [List.map_toArray, List.map_cons, List.map_nil, hx]
  exact fill_one cs _ (by simp [hc]) hc
theorem run_buildOne (w : World) (cs : List Value) (hc : cs.length = 65) : (Instr.buildSlice 64 1 #[(0, .agg cs.toArray)]).run Try.prog w = .ok (.slice (some ⟨w.heap.size, 0, none⟩) 1 1) (w.alloc (.cells cs.toArray 81)) := by
  obtain ⟨i0, hi, hz0, hz1⟩ : ∃ i0, Try.prog.info? 81 = some i0 ∧ i0.zero = some (.agg z83) ∧ i0.size = 65 := by
    have := zero83
    cases hq : Try.prog.info? 81 with
    | none => rw [hq] at this; cases this
    | some i => rw [hq] at this; simp at this; exact ⟨i, rfl, this.1, this.2⟩
  refine run_buildSlice w 64 81 1 _ cs.toArray i0 (.agg z83) Try.underlying64 hi hz0 (by rw [hz1]; decide) (by rw [hz1]; decide) ?_
  rw [hz1]
  exact fill_one cs _ (by simp [hc]) hc
/-- The same at a step of a region that draws its order. -/
theorem step_buildOne {ops : Array Oper} {o : Oper} {a : Act} {w : World} {K : Act → World → Prop} {Q : Exit → Act → World → Prop} {E : Prop} (hg : o.guard = none) (x : Operand) (ho : o.op = .buildSlice 64 1 #[(0, x)])
    (cs : List Value) (hx : a.eval x = .agg cs.toArray) (hc : cs.length = 65)
    (h : K (a.put o.dst (.slice (some ⟨w.heap.size, 0, none⟩) 1 1)) (w.alloc (.cells cs.toArray 81))) :
    if Region.wanted o (yielded ops a.tmps) = true then Oper.wp Try.prog o a w K Q else E := by
  rw [if_pos (by simp [Region.wanted, hg])]
  unfold Oper.wp execOp
  simp only [ho, List.map_toArray, List.map_cons, List.map_nil, hx, Sem.run_bind, run_buildOne w cs hc, Result.andThen_ok]
  exact h
/-- An operation that reads, taken first. -/
theorem take_read {P : Program} {ops : Array Oper} {Q : Exit → Act → World → Prop} {md : Region.Mode} {S : World → Prop} (i : Nat) (k : Tmp) (v : Value) {oi : Oper} {fuel : Nat} {listed : Array Bool} {a : Act} {w : World} (hi : ops[i]? = some oi) (hk : oi.dst = some k)
    (hs : Region.noSelect ops = true) (hf : Region.free md ops listed i = true) (hr : (Region.ready md ops listed).contains i = true)
    (hQ : ∀ c a w, Q (.panic c) (a.put (some k) v) w → Q (.panic c) a w) (hw : Region.wanted oi (yielded ops a.tmps) = true) (hS : S w) (hy : ∀ w, S w → (execOp a.eval oi).run P w = .ok (.value v) w)
    (h : wpAnyH P md ops Q S fuel (listed.setIfInBounds i true) (a.put (some k) v) w) : wpAnyH P md ops Q S (fuel + 1) listed a w :=
  wpAnyH_take hi hs hf hr (by rw [hk]; exact hQ) (.inl ⟨hw, hy⟩) hS (by rw [hk]; exact h)
/-- One operation alone may come up. -/
theorem take_only {P : Program} {ops : Array Oper} {Q : Exit → Act → World → Prop} {md : Region.Mode} {S : World → Prop} (i : Nat) {o : Oper} {fuel : Nat} {listed : Array Bool} {a : Act} {w : World} (hr : Region.ready md ops listed = [i]) (ho : ops[i]? = some o)
    (h : ∀ K' : Act → World → Prop, (∀ a w, S w → (S w → wpAnyH P md ops Q S fuel (listed.setIfInBounds i true) a w) → K' a w) → if Region.wanted o (yielded ops a.tmps) = true then Oper.wp P o a w K' Q else K' (a.put o.dst undef) w) : wpAnyH P md ops Q S (fuel + 1) listed a w :=
  wpAnyH_ready hr (by simp) (AllReadyH.cons ho (fun K hK => h K hK.out) AllReadyH.nil)
end Go.Proofs.Ythpbcibjohakkaa
