/- A disk's state in words of plain lists, and how it lies in memory. -/
import Derived.Test.YtapjgancaldgaaaDRow
namespace Go.Proofs.Ytapjgancaldgaaa
set_option maxRecDepth 100000
open Go.RowKit

/-- What is lasting of a block. -/
structure Cn where
  b : List Int
  t : Bool
/-- A write that waits. -/
structure Wr where
  p : Nat
  b : List Int
structure St where
  last : List Cn
  pend : List Wr
  off : Bool
  plan : Int
  writes : Int
  syncs : Int

def bc (zs : List Int) : List Value := zs.map (Value.int .u8)
def Cn.cells (c : Cn) : List Value := bc c.b ++ [.bool c.t]
def Wr.cells (x : Wr) : List Value := .int .i64 (x.p : Int) :: bc x.b
/-- 64 bytes. -/
structure B64 (zs : List Int) : Prop where
  len : zs.length = 64
  byte : ∀ z ∈ zs, 0 ≤ z ∧ z ≤ 255
theorem bc_len (zs : List Int) : (bc zs).length = zs.length := by simp [bc]
theorem Cn.len {c : Cn} (h : B64 c.b) : c.cells.length = 65 := by simp [Cn.cells, bc_len, h.len]
theorem Wr.len {x : Wr} (h : B64 x.b) : x.cells.length = 65 := by simp [Wr.cells, bc_len, h.len]
def zero64 : List Int := List.replicate 64 0
theorem b64_zero : B64 zero64 := ⟨by simp [zero64], fun z hz => by simp [zero64] at hz; omega⟩

/-- What a state's lists keep. -/
structure Wf (S : St) : Prop where
  lo : 1 ≤ S.last.length
  hi : S.last.length ≤ 16384
  lb : ∀ c ∈ S.last, B64 c.b
  pb : ∀ x ∈ S.pend, B64 x.b
  pp : ∀ x ∈ S.pend, x.p < S.last.length
  pl : -1 ≤ S.plan ∧ S.plan ≤ 9223372036854775807

/-- The disk at block d holds S; its newest numbers are nw; its blocks are among F. -/
structure Dv (F : Nat → Prop) (w : World) (d : Nat) (S : St) (nw : List Int) (vl vp vn : Value) : Prop where
  wf : Wf S
  blk : w.heap[d]? = some (.cells #[vl, vp, vn, .bool S.off, .int .i64 S.plan, .int .i64 S.writes, .int .i64 S.syncs] 92 (0, 0))
  last : w.ownsRow 0 97 65 vl S.last.length (S.last.flatMap Cn.cells)
  pend : w.ownsRow 0 100 65 vp S.pend.length (S.pend.flatMap Wr.cells)
  newest : w.ownsRow 0 3 1 vn S.last.length (nw.map (Value.int .i64))
  pnil : S.pend = [] → vp = .slice none 0 0
  fd : F d
  fl : ∀ k, vl.ownBlock = some k → F k ∧ k ≠ d
  fp : ∀ k, vp.ownBlock = some k → F k ∧ k ≠ d ∧ vl.ownBlock ≠ some k
  fn : ∀ k, vn.ownBlock = some k → F k ∧ k ≠ d ∧ vl.ownBlock ≠ some k ∧ vp.ownBlock ≠ some k

/-- The newest numbers say where each block's last pending write stands, counted from 1. -/
def NwOk (S : St) (nw : List Int) : Prop := ∀ n, n < S.last.length →
  (nw.getD n 0 = 0 ∧ ∀ x ∈ S.pend, x.p ≠ n) ∨ ∃ (j : Nat) (x : Wr), nw.getD n 0 = (j : Int) + 1 ∧ S.pend[j]? = some x ∧ x.p = n ∧ ∀ (i : Nat) (y : Wr), j < i → S.pend[i]? = some y → y.p ≠ n

/-- A disk that a call made. -/
def PD (F : Nat → Prop) (w : World) (d : Nat) (S : St) : Prop := ∃ nw vl vp vn, Dv F w d S nw vl vp vn ∧ NwOk S nw

section
variable {F F' : Nat → Prop} {w w' : World} {d : Nat} {S : St} {nw : List Int} {vl vp vn : Value}
theorem Dv.nwl (h : Dv F w d S nw vl vp vn) : nw.length = S.last.length := by have := h.newest.1; simpa using this
theorem Dv.dlt (h : Dv F w d S nw vl vp vn) : d < w.heap.size := (Array.getElem?_eq_some_iff.1 h.blk).1
theorem Dv.stays (h : Dv F w d S nw vl vp vn) (hk : ∀ k, k < w.heap.size → F k → w'.heap[k]? = w.heap[k]?) : Dv F w' d S nw vl vp vn :=
  ⟨h.wf, (hk d h.dlt h.fd).trans h.blk, own_stays h.last fun k e => hk k (h.last.lt k e).2 (h.fl k e).1, own_stays h.pend fun k e => hk k (h.pend.lt k e).2 (h.fp k e).1,
    own_stays h.newest fun k e => hk k (h.newest.lt k e).2 (h.fn k e).1, h.pnil, h.fd, h.fl, h.fp, h.fn⟩
theorem Dv.mono (h : Dv F w d S nw vl vp vn) (hF : ∀ k, k < w.heap.size → F k → F' k) : Dv F' w d S nw vl vp vn :=
  ⟨h.wf, h.blk, h.last, h.pend, h.newest, h.pnil, hF d h.dlt h.fd, fun k e => ⟨hF k (h.last.lt k e).2 (h.fl k e).1, (h.fl k e).2⟩,
    fun k e => ⟨hF k (h.pend.lt k e).2 (h.fp k e).1, (h.fp k e).2⟩, fun k e => ⟨hF k (h.newest.lt k e).2 (h.fn k e).1, (h.fn k e).2⟩⟩
theorem Dv.drew (h : Dv F w d S nw vl vp vn) : Dv F w.drew d S nw vl vp vn := ⟨h.wf, h.blk, h.last.drew, h.pend.drew, h.newest.drew, h.pnil, h.fd, h.fl, h.fp, h.fn⟩
theorem Dv.alloc (h : Dv F w d S nw vl vp vn) (o : Obj) : Dv F (w.alloc o) d S nw vl vp vn := h.stays fun k hk _ => Below.heap_alloc _ _ _ hk
theorem Dv.below (h : Dv F w d S nw vl vp vn) (hb : Below w.heap.size w w') : Dv F w' d S nw vl vp vn := h.stays fun k hk _ => hb.block k hk
theorem Dv.out {G : Nat → Prop} (h : Dv F w d S nw vl vp vn) (ho : Out G w w') (hd : ∀ k, F k → ¬ G k) : Dv F w' d S nw vl vp vn := h.stays fun k hk hf => ho.block k hk (hd k hf)
theorem Dv.cell (h : Dv F w d S nw vl vp vn) (j : Nat) : w.cell? ⟨d, j, none⟩ = #[vl, vp, vn, .bool S.off, .int .i64 S.plan, .int .i64 S.writes, .int .i64 S.syncs][j]? := cell_of_row w d j _ _ _ h.blk
theorem Dv.frozen (h : Dv F w d S nw vl vp vn) (j : Nat) : w.frozen? ⟨d, j, none⟩ = false := frozen_of_row w d j _ _ h.blk
/-- vl as it looks. -/
theorem Dv.lform (h : Dv F w d S nw vl vp vn) : ∃ g cap, vl = .slice (some ⟨g, 0, none⟩) S.last.length cap ∧ F g ∧ g ≠ d := by
  obtain ⟨g, cap, hv, _, _⟩ := h.last.form (by have := h.wf.lo; omega)
  exact ⟨g, cap, hv, (h.fl g (by rw [hv]; rfl)).1, (h.fl g (by rw [hv]; rfl)).2⟩
theorem Dv.nform (h : Dv F w d S nw vl vp vn) : ∃ g cap, vn = .slice (some ⟨g, 0, none⟩) S.last.length cap ∧ F g ∧ g ≠ d := by
  obtain ⟨g, cap, hv, _, _⟩ := h.newest.form (by have := h.wf.lo; omega)
  exact ⟨g, cap, hv, (h.fn g (by rw [hv]; rfl)).1, (h.fn g (by rw [hv]; rfl)).2.1⟩
theorem Dv.pform (h : Dv F w d S nw vl vp vn) : (S.pend = [] ∧ vp = .slice none 0 0) ∨ ∃ g cap, vp = .slice (some ⟨g, 0, none⟩) S.pend.length cap ∧ 0 < S.pend.length ∧ F g ∧ g ≠ d := by
  rcases Nat.eq_zero_or_pos S.pend.length with h0 | h0
  · have := List.eq_nil_of_length_eq_zero h0
    exact .inl ⟨this, h.pnil this⟩
  · obtain ⟨g, cap, hv, _, _⟩ := h.pend.form h0
    exact .inr ⟨g, cap, hv, h0, (h.fp g (by rw [hv]; rfl)).1, (h.fp g (by rw [hv]; rfl)).2.1⟩

/-- Another header over the same rows. -/
theorem Dv.head (h : Dv F w d S nw vl vp vn) (w2 : World) (S' : St) (hl : S'.last = S.last) (hp : S'.pend = S.pend) (hw : -1 ≤ S'.plan ∧ S'.plan ≤ 9223372036854775807)
    (hb : w2.heap[d]? = some (.cells #[vl, vp, vn, .bool S'.off, .int .i64 S'.plan, .int .i64 S'.writes, .int .i64 S'.syncs] 92 (0, 0)))
    (ho : ∀ k, k ≠ d → w2.heap[k]? = w.heap[k]?) : Dv F w2 d S' nw vl vp vn := by
  refine ⟨⟨by rw [hl]; exact h.wf.lo, by rw [hl]; exact h.wf.hi, by rw [hl]; exact h.wf.lb, by rw [hp]; exact h.wf.pb, by rw [hp, hl]; exact h.wf.pp, hw⟩, hb, ?_, ?_, ?_, by rw [hp]; exact h.pnil, h.fd, h.fl, h.fp, h.fn⟩
  · rw [hl]; exact own_stays h.last fun k e => ho k (h.fl k e).2
  · rw [hp]; exact own_stays h.pend fun k e => ho k (h.fp k e).2.1
  · rw [hl]; exact own_stays h.newest fun k e => ho k (h.fn k e).2.1
theorem blk_set {w : World} {d : Nat} {cs : Array Value} {t : TypeId} (h : w.heap[d]? = some (.cells cs t (0, 0))) (j : Nat) (v : Value) : (w.setCell ⟨d, j, none⟩ v).heap[d]? = some (.cells (cs.setIfInBounds j v) t (0, 0)) := heap_setCell_same w d j cs t v h
theorem heap_setCell_ne (w : World) (d j : Nat) (v : Value) : ∀ k, k ≠ d → (w.setCell ⟨d, j, none⟩ v).heap[k]? = w.heap[k]? := fun k hk => Below.heap_setCell _ _ _ _ hk
theorem Dv.setOff (h : Dv F w d S nw vl vp vn) (b : Bool) : Dv F (w.setCell ⟨d, 3, none⟩ (.bool b)) d { S with off := b } nw vl vp vn :=
  h.head _ { S with off := b } rfl rfl h.wf.pl (by rw [blk_set h.blk]; rfl) (heap_setCell_ne _ _ _ _)
theorem Dv.setPlan (h : Dv F w d S nw vl vp vn) (p : Int) (hp : -1 ≤ p ∧ p ≤ 9223372036854775807) : Dv F (w.setCell ⟨d, 4, none⟩ (.int .i64 p)) d { S with plan := p } nw vl vp vn :=
  h.head _ { S with plan := p } rfl rfl hp (by rw [blk_set h.blk]; rfl) (heap_setCell_ne _ _ _ _)
theorem Dv.setWrites (h : Dv F w d S nw vl vp vn) (p : Int) : Dv F (w.setCell ⟨d, 5, none⟩ (.int .i64 p)) d { S with writes := p } nw vl vp vn :=
  h.head _ { S with writes := p } rfl rfl h.wf.pl (by rw [blk_set h.blk]; rfl) (heap_setCell_ne _ _ _ _)
theorem Dv.setSyncs (h : Dv F w d S nw vl vp vn) (p : Int) : Dv F (w.setCell ⟨d, 6, none⟩ (.int .i64 p)) d { S with syncs := p } nw vl vp vn :=
  h.head _ { S with syncs := p } rfl rfl h.wf.pl (by rw [blk_set h.blk]; rfl) (heap_setCell_ne _ _ _ _)
theorem Dv.setNone (h : Dv F w d S nw vl vp vn) : Dv F (w.setCell ⟨d, 1, none⟩ (.slice none 0 0)) d { S with pend := [] } nw vl (.slice none 0 0) vn := by
  have ho := heap_setCell_ne w d 1 (.slice none 0 0)
  exact ⟨⟨h.wf.lo, h.wf.hi, h.wf.lb, by simp, by simp, h.wf.pl⟩, by rw [blk_set h.blk]; rfl, own_stays h.last fun k e => ho k (h.fl k e).2, World.ownsRow_nil _ _ _ _, own_stays h.newest fun k e => ho k (h.fn k e).2.1,
    fun _ => rfl, h.fd, h.fl, fun k e => by simp [Value.ownBlock] at e, fun k e => ⟨(h.fn k e).1, (h.fn k e).2.1, (h.fn k e).2.2.1, by simp [Value.ownBlock]⟩⟩

/-- One lasting block anew. -/
theorem Dv.setLast {g cap : Nat} (h : Dv F w d S nw (.slice (some ⟨g, 0, none⟩) S.last.length cap) vp vn) (i : Nat) (hi : i < S.last.length) (c : Cn) (hc : B64 c.b) :
    Dv F (w.setCells g (i * 65) c.cells) d { S with last := S.last.set i c } nw (.slice (some ⟨g, 0, none⟩) S.last.length cap) vp vn := by
  have ho := heap_setCells g c.cells (i * 65) w
  have hg : ∀ k, k = g → F k ∧ k ≠ d := fun k e => h.fl k (by rw [e]; rfl)
  have hs : ∀ x ∈ S.last, x.cells.length = 65 := fun x hx => Cn.len (h.wf.lb x hx)
  have h1 := own_setCells c.cells (i * 65) h.last
  rw [flat_put S.last hs i hi c (Cn.len hc)] at h1
  refine ⟨⟨by simpa using h.wf.lo, by simpa using h.wf.hi, fun x hx => ?_, h.wf.pb, by simpa using h.wf.pp, h.wf.pl⟩, (ho d (fun e => (hg d e).2 rfl)).trans h.blk, by simpa using h1, own_stays h.pend fun k e => ho k (fun e2 => (h.fp k e).2.2 (by rw [e2]; rfl)),
    by simpa using own_stays h.newest fun k e => ho k (fun e2 => (h.fn k e).2.2.1 (by rw [e2]; rfl)), h.pnil, h.fd, h.fl, h.fp, h.fn⟩
  rcases List.mem_or_eq_of_mem_set hx with hx | rfl
  · exact h.wf.lb x hx
  · exact hc
/-- One newest number anew. -/
theorem Dv.setNew {g cap : Nat} (h : Dv F w d S nw vl vp (.slice (some ⟨g, 0, none⟩) S.last.length cap)) (i : Nat) (z : Int) :
    Dv F (w.setCell ⟨g, i, none⟩ (.int .i64 z)) d S (nw.set i z) vl vp (.slice (some ⟨g, 0, none⟩) S.last.length cap) := by
  have ho := heap_setCell_ne w g i (.int .i64 z)
  have h1 := (h.newest.stored i (.int .i64 z)).1
  refine ⟨h.wf, (ho d (fun e => (h.fn d (by rw [e]; rfl)).2.1 rfl)).trans h.blk, own_stays h.last fun k e => ho k (fun e2 => (h.fn k (by rw [e2]; rfl)).2.2.1 e), own_stays h.pend fun k e => ho k (fun e2 => (h.fn k (by rw [e2]; rfl)).2.2.2 e),
    by rw [List.map_set]; exact h1, h.pnil, h.fd, h.fl, h.fp, h.fn⟩
end
end Go.Proofs.Ytapjgancaldgaaa
