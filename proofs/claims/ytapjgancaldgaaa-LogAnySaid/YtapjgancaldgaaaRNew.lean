/- The reference's New. -/
import Derived.Test.YtapjgancaldgaaaKRI
import Derived.Test.YtapjgancaldgaaaDNew
namespace Go.Proofs.Ytapjgancaldgaaa
set_option maxRecDepth 100000
open Go.RowKit

/-- The rows of a disk that is being made: kd blocks, kt torn marks, none of them in block B. -/
structure NPart (w wr : World) (B kd kt : Nat) (vd vt : Value) (vs : List Value) : Prop where
  d : wr.ownsRow w.heap.size 34 1 vd kd vs
  t : wr.ownsRow w.heap.size 4 1 vt kt (List.replicate kt (.bool false))
  at_ : ∀ i, i < kd → ∃ g, vs[i]? = some (.slice (some ⟨g, 0, none⟩) 64 64) ∧ Row wr g zero64 ∧ w.heap.size ≤ g ∧ g ≠ B ∧ vd.ownBlock ≠ some g ∧ vt.ownBlock ≠ some g
  db : vd.ownBlock ≠ some B
  tb : vt.ownBlock ≠ some B
  dt : ∀ g, vd.ownBlock = some g → vt.ownBlock ≠ some g
  nd : vs.Nodup
def newCells (vd vt : Value) : Array Value := #[.bool true, .bool false, .int .i64 (-1), vd, vt, .slice none 0 0, .int .i64 0, .int .i64 0]
structure NMid (w wr : World) (B kd kt : Nat) (vd vt : Value) (vs : List Value) : Prop where
  p : NPart w wr B kd kt vd vt vs
  blk : wr.heap[B]? = some (.cells (newCells vd vt) 31 (0, 0))
  b : w.heap.size ≤ B
  below : Below w.heap.size w wr

section
variable {w wr w' : World} {B kd kt : Nat} {vd vt : Value} {vs : List Value}
theorem NPart.stays (h : NPart w wr B kd kt vd vt vs) (hk : ∀ k, w.heap.size ≤ k → k < wr.heap.size → k ≠ B → w'.heap[k]? = wr.heap[k]?) : NPart w w' B kd kt vd vt vs :=
  ⟨own_stays h.d fun k e => hk k (h.d.lt k e).1 (h.d.lt k e).2 (fun e2 => h.db (e2 ▸ e)), own_stays h.t fun k e => hk k (h.t.lt k e).1 (h.t.lt k e).2 (fun e2 => h.tb (e2 ▸ e)),
    fun i hi => by
      obtain ⟨g, e, r, m⟩ := h.at_ i hi
      exact ⟨g, e, r.keep (hk g m.1 r.lt m.2.1), m⟩, h.db, h.tb, h.dt, h.nd⟩
theorem NMid.drew (h : NMid w wr B kd kt vd vt vs) : NMid w wr.drew B kd kt vd vt vs := ⟨h.p.stays fun _ _ _ _ => rfl, h.blk, h.b, h.below.drew⟩
theorem NMid.c3 (h : NMid w wr B kd kt vd vt vs) : wr.cell? ⟨B, 3, none⟩ = some vd := by rw [cell_of_row _ _ _ _ _ _ h.blk]; rfl
theorem NMid.c4 (h : NMid w wr B kd kt vd vt vs) : wr.cell? ⟨B, 4, none⟩ = some vt := by rw [cell_of_row _ _ _ _ _ _ h.blk]; rfl
theorem NMid.f (h : NMid w wr B kd kt vd vt vs) (j : Nat) : wr.frozen? ⟨B, j, none⟩ = false := frozen_of_row _ _ _ _ _ h.blk
theorem NMid.blt (h : NMid w wr B kd kt vd vt vs) : B < wr.heap.size := (Array.getElem?_eq_some_iff.1 h.blk).1

/-- A block more. -/
theorem NMid.more {W w5 : World} {g cap : Nat} (h : NMid w wr B kd kt vd vt vs) (hb : Below wr.heap.size wr W) (hr : Row W wr.heap.size zero64)
    (own5 : w5.ownsRow w.heap.size 34 1 (.slice (some ⟨g, 0, none⟩) (kd + 1) cap) (kd + 1) (vs ++ [.slice (some ⟨wr.heap.size, 0, none⟩) 64 64])) (gr : W.grownBy w5 vd.ownBlock) (hat : vd.ownBlock = some g ∨ g = W.heap.size) :
    NMid w (w5.setCell ⟨B, 3, none⟩ (.slice (some ⟨g, 0, none⟩) (kd + 1) cap)) B (kd + 1) kt (.slice (some ⟨g, 0, none⟩) (kd + 1) cap) vt (vs ++ [.slice (some ⟨wr.heap.size, 0, none⟩) 64 64]) := by
  have hB := h.blt
  have hs := hb.size
  have hrl := hr.lt
  have hgB : g ≠ B := by
    rcases hat with e | e
    · intro e2; subst e2; exact h.p.db e
    · omega
  have ho := heap_setCell_ne w5 B 3 (.slice (some ⟨g, 0, none⟩) (kd + 1) cap)
  have old : ∀ k, k < wr.heap.size → some k ≠ vd.ownBlock → w5.heap[k]? = wr.heap[k]? := fun k hk hn => (gr.block k (by omega) hn).trans (hb.block k hk)
  have hvl : vs.length = kd := by have := h.p.d.1; omega
  have hgt : vt.ownBlock ≠ some g := by
    intro e
    rcases hat with e1 | e1
    · exact h.p.dt g e1 e
    · have := (h.p.t.lt g e).2; omega
  refine ⟨⟨own_stays own5 fun k e => ho k (fun e2 => hgB (by rw [← e2]; simpa [Value.ownBlock] using e)), own_stays (own_stays h.p.t fun k e => old k (h.p.t.lt k e).2 (fun e2 => h.p.dt k e2.symm e)) (fun k e => ho k (fun e2 => h.p.tb (e2 ▸ e))), fun i hi => ?_, ?_, h.p.tb, fun k e => ?_, ?_⟩, ?_, h.b, ?_⟩
  · by_cases hlt : i < kd
    · obtain ⟨g', e, r, m1, m2, m3, m4⟩ := h.p.at_ i hlt
      have hgg : g ≠ g' := by
        rcases hat with e1 | e1
        · intro e2; subst e2; exact m3 e1
        · have := r.lt; omega
      exact ⟨g', by rw [List.getElem?_append_left (by omega)]; exact e, (r.keep (old g' r.lt (fun e2 => m3 e2.symm))).keep (ho g' m2), m1, m2, by simpa [Value.ownBlock] using hgg, m4⟩
    · obtain rfl : i = kd := by omega
      refine ⟨wr.heap.size, by rw [List.getElem?_append_right (by omega), hvl]; simp, (hr.keep (gr.block _ hrl (fun e => ?_))).keep (ho _ (by omega)), h.below.size, by omega, ?_, fun e => ?_⟩
      · have := (h.p.d.lt _ e.symm).2; omega
      · intro e
        have e' : g = wr.heap.size := by simpa [Value.ownBlock] using e
        rcases hat with e1 | e1
        · have := (h.p.d.lt _ e1).2; omega
        · omega
      · have := (h.p.t.lt _ e).2; omega
  · simpa [Value.ownBlock] using hgB
  · have e' : g = k := by simpa [Value.ownBlock] using e
    subst e'; exact hgt
  · rw [List.nodup_append]
    refine ⟨h.p.nd, by simp, fun a ha b hb2 e => ?_⟩
    simp at hb2
    subst hb2
    subst e
    obtain ⟨i, hi⟩ := List.getElem?_of_mem ha
    have hil : i < kd := by have := (List.getElem?_eq_some_iff.1 hi).1; omega
    obtain ⟨g', e', r, _⟩ := h.p.at_ i hil
    rw [hi] at e'
    have := r.lt
    injection e' with e'
    injection e' with e' _ _
    injection e' with e'
    injection e' with e' _ _
    omega
  · have h5 : w5.heap[B]? = some (.cells (newCells vd vt) 31 (0, 0)) := (old B hB (fun e => h.p.db e.symm)).trans h.blk
    rw [blk_set h5]; rfl
  · have h1 : Below w.heap.size w W := h.below.trans (hb.mono h.below.size)
    have h2 : Below w.heap.size w w5 := h1.grown gr h1.size (fun k e => (h.p.d.lt k e).1)
    exact h2.setCell (p := ⟨B, 3, none⟩) h.b _
/-- A torn mark more. -/
theorem NMid.moreT {W w5 : World} {g cap : Nat} (h : NMid w wr B kd kt vd vt vs) (hb : Below wr.heap.size wr W)
    (own5 : w5.ownsRow w.heap.size 4 1 (.slice (some ⟨g, 0, none⟩) (kt + 1) cap) (kt + 1) (List.replicate kt (.bool false) ++ [.bool false])) (gr : W.grownBy w5 vt.ownBlock) (hat : vt.ownBlock = some g ∨ g = W.heap.size) :
    NMid w (w5.setCell ⟨B, 4, none⟩ (.slice (some ⟨g, 0, none⟩) (kt + 1) cap)) B kd (kt + 1) vd (.slice (some ⟨g, 0, none⟩) (kt + 1) cap) vs := by
  have hB := h.blt
  have hs := hb.size
  have hgB : g ≠ B := by
    rcases hat with e | e
    · intro e2; subst e2; exact h.p.tb e
    · omega
  have ho := heap_setCell_ne w5 B 4 (.slice (some ⟨g, 0, none⟩) (kt + 1) cap)
  have old : ∀ k, k < wr.heap.size → some k ≠ vt.ownBlock → w5.heap[k]? = wr.heap[k]? := fun k hk hn => (gr.block k (by omega) hn).trans (hb.block k hk)
  have hgd : vd.ownBlock ≠ some g := by
    intro e
    rcases hat with e1 | e1
    · exact h.p.dt g e e1
    · have := (h.p.d.lt g e).2; omega
  refine ⟨⟨own_stays (own_stays h.p.d fun k e => old k (h.p.d.lt k e).2 (fun e2 => h.p.dt k e e2.symm)) (fun k e => ho k (fun e2 => h.p.db (e2 ▸ e))), ?_, fun i hi => ?_, h.p.db, ?_, fun k e e2 => ?_, h.p.nd⟩, ?_, h.b, ?_⟩
  · rw [List.replicate_succ']
    exact own_stays own5 fun k e => ho k (fun e2 => hgB (by rw [← e2]; simpa [Value.ownBlock] using e))
  · obtain ⟨g', e, r, m1, m2, m3, m4⟩ := h.p.at_ i hi
    have hgg : g ≠ g' := by
      rcases hat with e1 | e1
      · intro e2; subst e2; exact m4 e1
      · have := r.lt; omega
    exact ⟨g', e, (r.keep (old g' r.lt (fun e2 => m4 e2.symm))).keep (ho g' m2), m1, m2, m3, by simpa [Value.ownBlock] using hgg⟩
  · simpa [Value.ownBlock] using hgB
  · have e' : g = k := by simpa [Value.ownBlock] using e2
    subst e'; exact hgd e
  · have h5 : w5.heap[B]? = some (.cells (newCells vd vt) 31 (0, 0)) := (old B hB (fun e => h.p.tb e.symm)).trans h.blk
    rw [blk_set h5]; rfl
  · have h1 : Below w.heap.size w W := h.below.trans (hb.mono h.below.size)
    have h2 : Below w.heap.size w w5 := h1.grown gr h1.size (fun k e => (h.p.t.lt k e).1)
    exact h2.setCell (p := ⟨B, 4, none⟩) h.b _

/-- The value that was made, laid into a variable. -/
theorem NPart.lies (h : NPart w wr B kd kd vd vt vs) (h1 : 1 ≤ kd) (h2 : kd ≤ 16384) (hw : w.heap.size ≤ wr.heap.size) : ∀ W, W = wr.alloc (.cells (newCells vd vt) 31) → RD (fun k => w.heap.size ≤ k) W wr.heap.size (newS kd) := by
  intro W hW
  have q0 : W.heap[wr.heap.size]? = some (.cells (newCells vd vt) 31 (0, 0)) := by rw [hW]; exact heap_alloc_new _ _
  have old : ∀ k, k < wr.heap.size → W.heap[k]? = wr.heap[k]? := fun k hk => by rw [hW]; exact Below.heap_alloc _ _ _ hk
  have hWs : W.heap.size = wr.heap.size + 1 := by rw [hW]; simp
  have hL : (newL kd).length = kd := by simp [newL]
  have hc : ∀ c ∈ newL kd, B64 c.b := fun c hc => by rw [List.eq_of_mem_replicate hc]; exact b64_zero
  obtain ⟨gd, cd, rfl, d1, d2⟩ := h.d.form (by omega)
  obtain ⟨gt, ct, rfl, t1, t2⟩ := h.t.form (by omega)
  have hdt : gd ≠ gt := fun e => h.dt gd rfl (by rw [e]; rfl)
  have lt1 := (h.d.lt gd rfl).2
  have lt2 := (h.t.lt gt rfl).2
  refine ⟨vs, gd, cd, gt, ct, .slice none 0 0, ⟨⟨by simp [newS, hL]; omega, by simp [newS, hL]; omega, hc, by simp [newS], by simp [newS], by simp [newS]⟩, ?_, ?_, ?_, ?_, ⟨fun _ => rfl, fun hn => absurd rfl hn⟩, hw, d1, t1, by omega, by omega, hdt⟩⟩
  · have : (newS kd).last.length = kd := hL
    rw [q0, this]; rfl
  · have : (newS kd).last.length = kd := hL
    rw [this]
    exact own_base (own_stays h.d fun k e => old k (h.d.lt k e).2) (fun _ _ => Nat.zero_le _)
  · have e1 : (newS kd).last.length = kd := hL
    have e2 : ((newS kd).last.map fun c => Value.bool c.t) = List.replicate kd (.bool false) := by simp [newS, newL]
    rw [e1, e2]
    exact own_base (own_stays h.t fun k e => old k (h.t.lt k e).2) (fun _ _ => Nat.zero_le _)
  · intro i c hi
    have hil : i < kd := by have := (List.getElem?_eq_some_iff.1 hi).1; rw [show (newS kd).last.length = kd from hL] at this; exact this
    have hce : c = ⟨zero64, false⟩ := List.eq_of_mem_replicate (List.mem_of_getElem? hi)
    subst hce
    obtain ⟨g, e, r, m1, m2, m3, m4⟩ := h.at_ i hil
    have rl := r.lt
    have rb := (r.keep (old g rl)).rb b64_zero.byte
    rw [b64_zero.len] at rb
    refine ⟨g, 64, e, Nat.le_refl _, rb, by omega, m1, by omega, fun e2 => m3 (by rw [e2]; rfl), fun e2 => m4 (by rw [e2]; rfl)⟩
end

/-- What the reference's New leaves. -/
def RNewIs (w : World) (n : Int) (e : Ending) (w' : World) : Prop :=
  (¬ (1 ≤ n ∧ n ≤ 16384) ∧ e = .returned (.tuple #[.agg #[.bool false, .bool false, .int .i64 0, .slice none 0 0, .slice none 0 0, .slice none 0 0, .int .i64 0, .int .i64 0], .int .i64 1]) ∧ Below w.heap.size w w') ∨
  ((1 ≤ n ∧ n ≤ 16384) ∧ ∃ B vd vt vs, e = .returned (.tuple #[.agg (newCells vd vt), .int .i64 0]) ∧ NPart w w' B n.toNat n.toNat vd vt vs ∧ Below w.heap.size w w')

theorem infoB : (Try.prog.info? 4).map (fun i => (i.zero, i.size, i.bytes)) = some (some (.bool false), 1, 1) := by kernel_rfl

/-- append of one slice of bytes onto an own row of such, at a step of a region that draws its order. -/
theorem step_app_sl {w : World} {ops : Array Oper} {o : Oper} {a : Act} {K : Act → World → Prop} {Q : Exit → Act → World → Prop} {E : Prop} (hgd : o.guard = none) (s x : Operand)
    (ho : o.op = .call { callee := .builtin .append, args := #[s, x], argTypes := #[27, 27] }) (base : Nat) (v : Value) (n : Nat) (xs : List Value) (hs : a.eval s = v) (own : w.ownsRow base 34 1 v n xs)
    (B c : Nat) (u : Value) (hx : a.eval x = .slice (some ⟨B, 0, none⟩) 1 c) (hb : w.heap[B]? = some (.cells #[u] 34 (0, 0))) (hu : u.oneCell' = true) (hn : n ≤ 4398046511104) (hbase : base ≤ w.heap.size)
    (h : ∀ g cap w', w'.ownsRow base 34 1 (.slice (some ⟨g, 0, none⟩) (n + 1) cap) (n + 1) (xs ++ [u]) → w.grownBy w' v.ownBlock → (v.ownBlock = some g ∨ g = w.heap.size) → K (a.put o.dst (.slice (some ⟨g, 0, none⟩) (n + 1) cap)) w') :
    if Region.wanted o (yielded ops a.tmps) = true then Oper.wp Try.prog o a w K Q else E := by
  obtain ⟨i0, hi, hz0, hz1, hz2⟩ := info_parts infoSl
  exact step_append_far w hgd s x 27 ho base 34 i0 _ 1 24 Try.underlying27 hi hz0 hz1 hz2 (by rfl) (by decide) v n xs hs own ⟨B, 0, none⟩ 1 c [u] hx rfl
    (World.news_of_block (cs := #[u]) hb) (by simpa using hu) (by decide) (by simp only [maxLen]; omega) (by omega) hbase h
theorem list_app_b {w : World} {ops : Array Oper} {rest : List Oper} {o : Oper} {a : Act} {Q : Exit → Act → World → Prop} (hgd : o.guard = none) (s x : Operand)
    (ho : o.op = .call { callee := .builtin .append, args := #[s, x], argTypes := #[28, 28] }) (base : Nat) (v : Value) (n : Nat) (xs : List Value) (hs : a.eval s = v) (own : w.ownsRow base 4 1 v n xs)
    (B c : Nat) (u : Value) (hx : a.eval x = .slice (some ⟨B, 0, none⟩) 1 c) (hb : w.heap[B]? = some (.cells #[u] 4 (0, 0))) (hu : u.oneCell' = true) (hn : n ≤ 4398046511104) (hbase : base ≤ w.heap.size)
    (h : ∀ g cap w', w'.ownsRow base 4 1 (.slice (some ⟨g, 0, none⟩) (n + 1) cap) (n + 1) (xs ++ [u]) → w.grownBy w' v.ownBlock → (v.ownBlock = some g ∨ g = w.heap.size) → wpList Try.prog ops Q rest (a.put o.dst (.slice (some ⟨g, 0, none⟩) (n + 1) cap)) w') :
    wpList Try.prog ops Q (o :: rest) a w := by
  obtain ⟨i0, hi, hz0, hz1, hz2⟩ := info_parts infoB
  exact wpList_append_far w hgd s x 28 ho base 4 i0 _ 1 1 Try.underlying28 hi hz0 hz1 hz2 (by rfl) (by decide) v n xs hs own ⟨B, 0, none⟩ 1 c [u] hx rfl
    (World.news_of_block (cs := #[u]) hb) (by simpa using hu) (by decide) (by simp only [maxLen]; omega) (by omega) hbase h

theorem NPart.base {w w0 wr : World} {B kd kt : Nat} {vd vt : Value} {vs : List Value} (h : NPart w wr B kd kt vd vt vs) (hb : w0.heap.size ≤ w.heap.size) : NPart w0 wr B kd kt vd vt vs :=
  ⟨own_base h.d fun k e => Nat.le_trans hb (h.d.lt k e).1, own_base h.t fun k e => Nat.le_trans hb (h.t.lt k e).1, fun i hi => by
    obtain ⟨g, e, r, m, m2⟩ := h.at_ i hi
    exact ⟨g, e, r, Nat.le_trans hb m, m2⟩, h.db, h.tb, h.dt, h.nd⟩

def z8 : Array Value := #[.bool false, .bool false, .int .i64 0, .slice none 0 0, .slice none 0 0, .slice none 0 0, .int .i64 0, .int .i64 0]
set_option maxHeartbeats 2000000 in
theorem rnew (w : World) (n : Int) (hr : -9223372036854775808 ≤ n ∧ n ≤ 9223372036854775807) : Calls Try.prog 15 #[.int .i64 n] w (RNewIs w n) := by
  by_cases h1 : 1 ≤ n
  · by_cases h2 : n ≤ 16384
    · obtain ⟨k0, rfl⟩ := Int.eq_ofNat_of_zero_le (show 0 ≤ n by omega)
      have HN1 := Lib.hid (show 1 ≤ k0 by omega)
      have HN2 := Lib.hid (show k0 ≤ 16384 by omega)
      have h1' : decide ((k0 : Int) < 1) = false := by simp; omega
      have h2' : decide ((16384 : Int) < (k0 : Int)) = false := by simp; omega
      clear h1
      go_enter Try.func15, Try.ntmps15
      go_wp2
      obtain ⟨w1, hw1⟩ : ∃ W, W = w.alloc (.cells z8 31) := ⟨_, rfl⟩
      have hs1 : w1.heap.size = w.heap.size + 1 := by rw [hw1]; simp
      have hz1 : w1.heap[w.heap.size]? = some (.cells z8 31 (0, 0)) := by rw [hw1]; exact heap_alloc_new _ _
      have HB1 := Lib.hid (show Below w.heap.size w w1 by rw [hw1]; exact (Below.refl _ _).alloc (Nat.le_refl _) _)
      have HS1 := Lib.hid hs1
      have HZ1 := Lib.hid hz1
      obtain ⟨w2, hw2⟩ : ∃ W, W = w1.alloc (.cells (newCells (.slice none 0 0) (.slice none 0 0)) 31) := ⟨_, rfl⟩
      have M0 := Lib.hid (show NMid w1 w2 (w.heap.size + 1) 0 0 (.slice none 0 0) (.slice none 0 0) [] from
        ⟨⟨World.ownsRow_nil _ _ _ _, World.ownsRow_nil _ _ _ _, fun i hi => absurd hi (Nat.not_lt_zero _), by simp [Value.ownBlock], by simp [Value.ownBlock], fun g e => by simp [Value.ownBlock] at e, List.nodup_nil⟩,
          by rw [hw2, ← hs1]; exact heap_alloc_new _ _, Nat.le_of_eq hs1, by rw [hw2]; exact (Below.refl _ _).alloc (Nat.le_refl _) _⟩)
      rw [show ((w.alloc (.cells #[.bool false, .bool false, .int .i64 0, .slice none 0 0, .slice none 0 0, .slice none 0 0, .int .i64 0, .int .i64 0] 31)).alloc (.cells #[.bool true, .bool false, .int .i64 (-1), .slice none 0 0, .slice none 0 0, .slice none 0 0, .int .i64 0, .int .i64 0] 31)) = w2 by rw [hw2, hw1]; rfl]
      clear hw1 hw2 hs1 hz1
      go_loopw [5] (fun i wr => ∃ (k : Nat) (vd vt : Value) (vs : List Value), i = .int .i64 (k : Nat) ∧ k ≤ k0 ∧ NMid w1 wr (w.heap.size + 1) k k vd vt vs) (fun i _ => k0 - (intOf i).toNat)
      case atStart => exact ⟨0, _, _, _, rfl, Nat.zero_le _, M0.out⟩
      case round =>
        obtain ⟨k, vd, vt, vs, rfl, hk, hR⟩ := hrel
        by_cases hlt : k < k0
        · have hki : (k : Int) < (k0 : Int) := by omega
          have hd := hR.drew
          have c3 := hd.c3
          have f3 := hd.f 3
          have HD := Lib.hid hd
          have hmk : (Instr.makeSlice 34 (.int .i64 64) (.int .i64 64)).run Try.prog wr.drew = .ok (.slice (some ⟨wr.heap.size, 0, none⟩) 64 64) (wr.drew.alloc (.cells (madeCells #[.int .u8 0] 64) 5)) := run_make_bytes wr.drew 64 64 (by omega) (by omega) (by omega)
          obtain ⟨W2, hW2⟩ : ∃ W, W = wr.drew.alloc (.cells (madeCells #[.int .u8 0] 64) 5) := ⟨_, rfl⟩
          rw [← hW2] at hmk
          have b2 : Below wr.heap.size wr.drew W2 := by rw [hW2]; exact (Below.refl wr.heap.size wr.drew).alloc (Nat.le_refl wr.heap.size) _
          have r2 : Row W2 wr.heap.size zero64 := by rw [hW2]; exact row_made wr.drew 64
          have s2 : W2.heap.size = wr.heap.size + 1 := by rw [hW2]; simp
          obtain ⟨W3, hW3⟩ : ∃ W, W2.alloc (.cells #[.slice (some ⟨wr.heap.size, 0, none⟩) 64 64] 34) = W := ⟨_, rfl⟩
          have b3 : Below wr.heap.size wr.drew W3 := by rw [← hW3]; exact b2.alloc b2.size _
          have r3 : Row W3 wr.heap.size zero64 := r2.keep (by rw [← hW3]; exact Below.heap_alloc _ _ _ (by omega))
          have q3 : W3.heap[wr.heap.size + 1]? = some (.cells #[.slice (some ⟨wr.heap.size, 0, none⟩) 64 64] 34 (0, 0)) := by rw [← hW3, ← s2]; exact heap_alloc_new _ _
          have hbl := HD.out.blt
          have hS2 : W2.cell? ⟨w.heap.size + 1, 3, none⟩ = some vd := keep_below (w := wr.drew) c3 b2
          have hS3 : W3.cell? ⟨w.heap.size + 1, 3, none⟩ = some vd := keep_below (w := wr.drew) c3 b3
          have o3 : W3.ownsRow w1.heap.size 34 1 vd k vs := own_stays HD.out.p.d fun j e => b3.block j (HD.out.p.d.lt j e).2
          have O3 := Lib.hid o3
          have B3 := Lib.hid b3
          have R3 := Lib.hid r3
          have Q3 := Lib.hid q3
          have S2 := Lib.hid s2
          have HKI := Lib.hid hlt
          have HF3 := Lib.hid (show ∀ w5, W3.grownBy w5 vd.ownBlock → w5.cell? ⟨w.heap.size + 1, 3, none⟩ = some vd ∧ w5.frozen? ⟨w.heap.size + 1, 3, none⟩ = false from fun w5 gr => by
            have hne : some (w.heap.size + 1) ≠ vd.ownBlock := fun e => HD.out.p.db e.symm
            have hl : w.heap.size + 1 < W3.heap.size := by have := b3.size; have : w.heap.size + 1 < wr.heap.size := hbl; omega
            refine ⟨(gr.cell_far ⟨w.heap.size + 1, 3, none⟩ hl hne).trans hS3, (gr.frozen_far ⟨w.heap.size + 1, 3, none⟩ hl hne).trans ?_⟩
            rw [World.frozen?_of_block (w := wr.drew) (b3.block (w.heap.size + 1) hbl)]
            exact f3)
          clear hW2 b2 r2 b3 r3 q3 o3 hbl hd hR M0 hlt
          go_wp2
          go_region_law
            (first
              | ((refine step_app_sl (by rfl) (.tmp 20) (.tmp 22) (by rfl) w1.heap.size vd k vs (by rfl) O3.out (wr.heap.size + 1) 1 _ (by rfl) Q3.out rfl (by have := HN2.out; omega) (Nat.le_trans HD.out.below.size B3.out.size) ?_; intro g cap w5 own5 gr5 at5; have HM := Lib.hid (HD.out.more B3.out R3.out own5 gr5 at5); have hS5 := (HF3.out w5 gr5).1; have f5 := (HF3.out w5 gr5).2; clear own5 gr5 at5)))
          all_goals
            obtain ⟨W6, hW6⟩ : ∃ W, w5.setCell ⟨w.heap.size + 1, 3, none⟩ (.slice (some ⟨g, 0, none⟩) (k + 1) cap) = W := ⟨_, rfl⟩
            rw [hW6] at HM ⊢
            have c4 := HM.out.c4
            have f4 := HM.out.f 4
            obtain ⟨W7, hW7⟩ : ∃ W, W6.alloc (.cells #[.bool false] 4) = W := ⟨_, rfl⟩
            have b7 : Below W6.heap.size W6 W7 := by rw [← hW7]; exact (Below.refl _ _).alloc (Nat.le_refl _) _
            have q7 : W7.heap[W6.heap.size]? = some (.cells #[.bool false] 4 (0, 0)) := by rw [← hW7]; exact heap_alloc_new _ _
            have hbl := HM.out.blt
            have hs7 := b7.size
            have o7 : W7.ownsRow w1.heap.size 4 1 vt k (List.replicate k (.bool false)) := own_stays HM.out.p.t fun j e => b7.block j (HM.out.p.t.lt j e).2
            have HF7 := Lib.hid (show ∀ w8, W7.grownBy w8 vt.ownBlock → ∃ u, w8.cell? ⟨w.heap.size + 1, 4, none⟩ = some u ∧ w8.frozen? ⟨w.heap.size + 1, 4, none⟩ = false from fun w8 gr => by
              have hne : some (w.heap.size + 1) ≠ vt.ownBlock := fun e => HM.out.p.tb e.symm
              have hl : w.heap.size + 1 < W7.heap.size := by omega
              refine ⟨vt, (gr.cell_far ⟨w.heap.size + 1, 4, none⟩ hl hne).trans (keep_below c4 b7), (gr.frozen_far ⟨w.heap.size + 1, 4, none⟩ hl hne).trans ?_⟩
              rw [World.frozen?_of_block (w := W6) (b7.block (w.heap.size + 1) hbl)]
              exact f4)
            have O7 := Lib.hid o7
            have B7 := Lib.hid b7
            have Q7 := Lib.hid q7
            clear hW6 b7 q7 hbl hs7 o7 c3 f3 hS2 hS3 hS5 f5 hmk hW3 s2 HF3
            go_wp2_with (at_builtin; refine list_app_b (by rfl) (.tmp 26) (.tmp 27) (by rfl) w1.heap.size vt k _ (by rfl) O7.out W6.heap.size 1 (.bool false) (by rfl) Q7.out rfl (by have := HN2.out; have := HKI.out; omega) (Nat.le_trans HM.out.below.size B7.out.size) ?_; intro g8 cap8 w8 own8 gr8 at8; have HM8 := Lib.hid (HM.out.moreT B7.out own8 gr8 at8); obtain ⟨u8, hS8, f8⟩ := HF7.out w8 gr8; clear own8 gr8 at8 c4 f4)
            go_roundw
            case rel => exact ⟨k + 1, _, _, _, by go_num, HKI.out, HM8.out⟩
            case measure => have := HKI.out; simp [intOf]; omega
        · obtain rfl : k = k0 := by omega
          obtain ⟨gd, cd, rfl, -, -⟩ := hR.p.d.form HN1.out
          obtain ⟨gt, ct, rfl, -, -⟩ := hR.p.t.form HN1.out
          have HP := Lib.hid hR.p
          have hz : wr.heap[w.heap.size]? = some (.cells z8 31 (0, 0)) := (hR.below.block _ (by have := HS1.out; omega)).trans HZ1.out
          have c0 : wr.cell? ⟨w.heap.size + 1, 0, none⟩ = some (.bool true) := by rw [cell_of_row _ _ _ _ _ _ hR.blk]; rfl
          have c1 : wr.cell? ⟨w.heap.size + 1, 1, none⟩ = some (.bool false) := by rw [cell_of_row _ _ _ _ _ _ hR.blk]; rfl
          have c2 : wr.cell? ⟨w.heap.size + 1, 2, none⟩ = some (.int .i64 (-1)) := by rw [cell_of_row _ _ _ _ _ _ hR.blk]; rfl
          have c3 : wr.cell? ⟨w.heap.size + 1, 3, none⟩ = some (.slice (some ⟨gd, 0, none⟩) k cd) := by rw [cell_of_row _ _ _ _ _ _ hR.blk]; rfl
          have c4 : wr.cell? ⟨w.heap.size + 1, 4, none⟩ = some (.slice (some ⟨gt, 0, none⟩) k ct) := by rw [cell_of_row _ _ _ _ _ _ hR.blk]; rfl
          have c5 : wr.cell? ⟨w.heap.size + 1, 5, none⟩ = some (.slice none 0 0) := by rw [cell_of_row _ _ _ _ _ _ hR.blk]; rfl
          have c6 : wr.cell? ⟨w.heap.size + 1, 6, none⟩ = some (.int .i64 0) := by rw [cell_of_row _ _ _ _ _ _ hR.blk]; rfl
          have c7 : wr.cell? ⟨w.heap.size + 1, 7, none⟩ = some (.int .i64 0) := by rw [cell_of_row _ _ _ _ _ _ hR.blk]; rfl
          have d0 : wr.cell? ⟨w.heap.size, 0, none⟩ = some (.bool false) := by rw [cell_of_row _ _ _ _ _ _ hz]; rfl
          have e0 : wr.frozen? ⟨w.heap.size, 0, none⟩ = false := frozen_of_row _ _ _ _ _ hz
          have d1 : wr.cell? ⟨w.heap.size, 1, none⟩ = some (.bool false) := by rw [cell_of_row _ _ _ _ _ _ hz]; rfl
          have e1 : wr.frozen? ⟨w.heap.size, 1, none⟩ = false := frozen_of_row _ _ _ _ _ hz
          have d2 : wr.cell? ⟨w.heap.size, 2, none⟩ = some (.int .i64 0) := by rw [cell_of_row _ _ _ _ _ _ hz]; rfl
          have e2 : wr.frozen? ⟨w.heap.size, 2, none⟩ = false := frozen_of_row _ _ _ _ _ hz
          have d3 : wr.cell? ⟨w.heap.size, 3, none⟩ = some (.slice none 0 0) := by rw [cell_of_row _ _ _ _ _ _ hz]; rfl
          have e3 : wr.frozen? ⟨w.heap.size, 3, none⟩ = false := frozen_of_row _ _ _ _ _ hz
          have d4 : wr.cell? ⟨w.heap.size, 4, none⟩ = some (.slice none 0 0) := by rw [cell_of_row _ _ _ _ _ _ hz]; rfl
          have e4 : wr.frozen? ⟨w.heap.size, 4, none⟩ = false := frozen_of_row _ _ _ _ _ hz
          have d5 : wr.cell? ⟨w.heap.size, 5, none⟩ = some (.slice none 0 0) := by rw [cell_of_row _ _ _ _ _ _ hz]; rfl
          have e5 : wr.frozen? ⟨w.heap.size, 5, none⟩ = false := frozen_of_row _ _ _ _ _ hz
          have d6 : wr.cell? ⟨w.heap.size, 6, none⟩ = some (.int .i64 0) := by rw [cell_of_row _ _ _ _ _ _ hz]; rfl
          have e6 : wr.frozen? ⟨w.heap.size, 6, none⟩ = false := frozen_of_row _ _ _ _ _ hz
          have d7 : wr.cell? ⟨w.heap.size, 7, none⟩ = some (.int .i64 0) := by rw [cell_of_row _ _ _ _ _ _ hz]; rfl
          have e7 : wr.frozen? ⟨w.heap.size, 7, none⟩ = false := frozen_of_row _ _ _ _ _ hz
          have HB := Lib.hid (HB1.out.trans (hR.below.mono HB1.out.size))
          have HZR := Lib.hid hz
          clear hR M0 hz
          obtain ⟨W8, hW8⟩ : ∃ W, (((((((wr.setCell ⟨w.heap.size, 0, none⟩ (.bool true)).setCell ⟨w.heap.size, 1, none⟩ (.bool false)).setCell ⟨w.heap.size, 2, none⟩ (.int .i64 (-1))).setCell ⟨w.heap.size, 3, none⟩ (.slice (some ⟨gd, 0, none⟩) k cd)).setCell ⟨w.heap.size, 4, none⟩ (.slice (some ⟨gt, 0, none⟩) k ct)).setCell ⟨w.heap.size, 5, none⟩ (.slice none 0 0)).setCell ⟨w.heap.size, 6, none⟩ (.int .i64 0)).setCell ⟨w.heap.size, 7, none⟩ (.int .i64 0) = W := ⟨_, rfl⟩
          have q8 : W8.heap[w.heap.size]? = some (.cells (newCells (.slice (some ⟨gd, 0, none⟩) k cd) (.slice (some ⟨gt, 0, none⟩) k ct)) 31 (0, 0)) := by
            rw [← hW8, blk_set (blk_set (blk_set (blk_set (blk_set (blk_set (blk_set (blk_set HZR.out 0 _) 1 _) 2 _) 3 _) 4 _) 5 _) 6 _) 7 _]
            rfl
          have g0 : W8.cell? ⟨w.heap.size, 0, none⟩ = some (.bool true) := by rw [cell_of_row _ _ _ _ _ _ q8]; rfl
          have g1 : W8.cell? ⟨w.heap.size, 1, none⟩ = some (.bool false) := by rw [cell_of_row _ _ _ _ _ _ q8]; rfl
          have g2 : W8.cell? ⟨w.heap.size, 2, none⟩ = some (.int .i64 (-1)) := by rw [cell_of_row _ _ _ _ _ _ q8]; rfl
          have g3 : W8.cell? ⟨w.heap.size, 3, none⟩ = some (.slice (some ⟨gd, 0, none⟩) k cd) := by rw [cell_of_row _ _ _ _ _ _ q8]; rfl
          have g4 : W8.cell? ⟨w.heap.size, 4, none⟩ = some (.slice (some ⟨gt, 0, none⟩) k ct) := by rw [cell_of_row _ _ _ _ _ _ q8]; rfl
          have g5 : W8.cell? ⟨w.heap.size, 5, none⟩ = some (.slice none 0 0) := by rw [cell_of_row _ _ _ _ _ _ q8]; rfl
          have g6 : W8.cell? ⟨w.heap.size, 6, none⟩ = some (.int .i64 0) := by rw [cell_of_row _ _ _ _ _ _ q8]; rfl
          have g7 : W8.cell? ⟨w.heap.size, 7, none⟩ = some (.int .i64 0) := by rw [cell_of_row _ _ _ _ _ _ q8]; rfl
          clear q8
          have HW8 := Lib.hid (show ∀ j, j ≠ w.heap.size → W8.heap[j]? = wr.heap[j]? from fun j hj => by
            rw [← hW8]
            iterate 8 rw [heap_setCell_ne _ _ _ _ j hj]
          )
          have HB8 := Lib.hid (show Below w.heap.size w W8 by
            rw [← hW8]
            exact (((((((HB.out.setCell (p := ⟨w.heap.size, 0, none⟩) (Nat.le_refl _) _).setCell (p := ⟨w.heap.size, 1, none⟩) (Nat.le_refl _) _).setCell (p := ⟨w.heap.size, 2, none⟩) (Nat.le_refl _) _).setCell (p := ⟨w.heap.size, 3, none⟩) (Nat.le_refl _) _).setCell (p := ⟨w.heap.size, 4, none⟩) (Nat.le_refl _) _).setCell (p := ⟨w.heap.size, 5, none⟩) (Nat.le_refl _) _).setCell (p := ⟨w.heap.size, 6, none⟩) (Nat.le_refl _) _).setCell (p := ⟨w.heap.size, 7, none⟩) (Nat.le_refl _) _)
          go_wp2
          refine bodyPost_ret (v := .tuple #[.agg (newCells (.slice (some ⟨gd, 0, none⟩) k cd) (.slice (some ⟨gt, 0, none⟩) k ct)), .int .i64 0]) (by simp [results, Try.results15, go_sem, newCells, g0, g1, g2, g3, g4, g5, g6, g7]) rfl ?_
          refine .inr ⟨⟨by have := HN1.out; omega, by have := HN2.out; omega⟩, w.heap.size + 1, _, _, vs, rfl, ?_, HB8.out⟩
          rw [Int.toNat_natCast]
          exact (HP.out.stays fun j h1 _ _ => HW8.out j (by have := HS1.out; omega)).base (by have := HS1.out; omega)
    · go_enter Try.func15, Try.ntmps15
      go_wp2
      exact bodyPost_ret (v := .tuple #[.agg #[.bool false, .bool false, .int .i64 0, .slice none 0 0, .slice none 0 0, .slice none 0 0, .int .i64 0, .int .i64 0], .int .i64 1]) (by simp [results, Try.results15, go_sem]) rfl (.inl ⟨by omega, rfl, (Below.refl _ _).alloc (Nat.le_refl _) _⟩)
  · go_enter Try.func15, Try.ntmps15
    go_wp2
    exact bodyPost_ret (v := .tuple #[.agg #[.bool false, .bool false, .int .i64 0, .slice none 0 0, .slice none 0 0, .slice none 0 0, .int .i64 0, .int .i64 0], .int .i64 1]) (by simp [results, Try.results15, go_sem]) rfl (.inl ⟨by omega, rfl, (Below.refl _ _).alloc (Nat.le_refl _) _⟩)
end Go.Proofs.Ytapjgancaldgaaa
