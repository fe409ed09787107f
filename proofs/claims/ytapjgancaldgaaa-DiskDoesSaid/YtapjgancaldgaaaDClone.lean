/- The disk's Clone. -/
import Derived.Test.YtapjgancaldgaaaDOwnB
import Derived.Test.YtapjgancaldgaaaDAppend
import Derived.Test.YtapjgancaldgaaaDNew
namespace Go.Proofs.Ytapjgancaldgaaa
set_option maxRecDepth 100000
open Go.RowKit

def CloneIs (w : World) (e : TypeId) (size n : Nat) (xs : List Value) (r : Ending) (w' : World) : Prop :=
  ∃ g cap, r = .returned (.slice (some ⟨g, 0, none⟩) n cap) ∧ w'.ownsRow w.heap.size e size (.slice (some ⟨g, 0, none⟩) n cap) n xs ∧ Below w.heap.size w w'

theorem eqnil_isnt (t e : TypeId) (ht : Try.prog.underlying t = some (.slice e)) (w : World) (a : Addr) (l c : Nat) : (binOp .eql t (.slice (some a) l c) (.slice none 0 0)).run Try.prog w = .ok (.bool false) w := by
  simp only [binOp]
  simp [run_equal_slice_nil w t _ (some a) l c ht]
theorem eqnil_is (t e : TypeId) (ht : Try.prog.underlying t = some (.slice e)) (w : World) : (binOp .eql t (.slice none 0 0) (.slice none 0 0)).run Try.prog w = .ok (.bool true) w := by
  simp only [binOp]
  simp [run_equal_slice_nil w t _ none 0 0 ht]

set_option maxHeartbeats 1000000 in
theorem clone_c (w : World) (g n cap : Nat) (xs : List Value) (h : w.ownsRow 0 97 65 (.slice (some ⟨g, 0, none⟩) n cap) n xs) (h1 : ∀ u ∈ xs, u.oneCell' = true) (hn : 0 < n) (hm : n ≤ 16384) :
    Calls Try.prog 50 #[.slice (some ⟨g, 0, none⟩) n cap] w (CloneIs w 97 65 n xs) := by
  have he := fun w => eqnil_isnt 89 _ Try.underlying89 w ⟨g, 0, none⟩ n cap
  obtain ⟨i0, hi, hz0, hz1, hz2⟩ := info_parts info80
  obtain ⟨W1, hW1⟩ : ∃ W, w.alloc (.cells #[] 97) = W := ⟨_, rfl⟩
  have q1 : W1.heap[w.heap.size]? = some (.cells #[] 97 (0, 0)) := by rw [← hW1]; exact heap_alloc_new _ _
  have b1 : Below w.heap.size w W1 := by rw [← hW1]; exact (Below.refl _ _).alloc (Nat.le_refl _) _
  have o0 := Lib.hid (show W1.ownsRow w.heap.size 97 65 (.slice (some ⟨w.heap.size, 0, none⟩) 0 0) 0 [] from ⟨by simp, .inr ⟨w.heap.size, 0, _, rfl, Nat.le_refl _, q1, Nat.le_refl _, by simp [maxLen], by simp, by simp⟩⟩)
  have h' : W1.ownsRow 0 97 65 (.slice (some ⟨g, 0, none⟩) n cap) n xs := own_stays h fun k e => b1.block k (h.lt k e).2
  have HL := Lib.hid (show xs.length = n * 65 from h.1)
  have HN := Lib.hid (show ∀ j u, xs[j]? = some u → W1.cell? ((⟨g, 0, none⟩ : Addr).add j) = some u from fun j u hu => by
    rw [Addr.add_mid, Nat.zero_add, h'.cellAt j (by have := (List.getElem?_eq_some_iff.1 hu).1; have := h.1; omega)]; exact hu)
  have HB := Lib.hid b1
  have H1 := Lib.hid h1
  have HI := Lib.hid hi
  clear h h' q1 b1 h1 hi
  go_enter Try.func50, Try.ntmps50
  go_wp2_with (at_builtin; go_loud (refine wpList_append_far W1 (by rfl) (.tmp 5) (.tmp 6) 89 (by rfl) w.heap.size 97 i0 (.agg z80) 65 65 Try.underlying89 HI.out hz0 hz1 hz2 (by rfl) (by decide) (.slice (some ⟨w.heap.size, 0, none⟩) 0 0) 0 [] (by rfl) o0.out ⟨g, 0, none⟩ n cap xs (by rfl) HL.out HN.out H1.out hn (by simp only [maxLen]; omega) (by omega) HB.out.size ?_; intro g' cap' w2 own2 gr2 at2; rw [Nat.zero_add, List.nil_append] at own2; have O2 := Lib.hid own2; have B2 := Lib.hid (show Below w.heap.size w w2 from HB.out.grown gr2 HB.out.size (fun k e => Nat.le_of_eq (by simpa [Value.ownBlock] using e))); clear own2 gr2 at2))
  go_ret
  exact ⟨g', cap', rfl, O2.out, B2.out⟩

set_option maxHeartbeats 1000000 in
theorem clone_w (w : World) (g n cap : Nat) (xs : List Value) (h : w.ownsRow 0 100 65 (.slice (some ⟨g, 0, none⟩) n cap) n xs) (h1 : ∀ u ∈ xs, u.oneCell' = true) (hn : 0 < n) (hm : n ≤ 2199023255552) :
    Calls Try.prog 51 #[.slice (some ⟨g, 0, none⟩) n cap] w (CloneIs w 100 65 n xs) := by
  have he := fun w => eqnil_isnt 90 _ Try.underlying90 w ⟨g, 0, none⟩ n cap
  obtain ⟨i0, hi, hz0, hz1, hz2⟩ := info_parts info83
  obtain ⟨W1, hW1⟩ : ∃ W, w.alloc (.cells #[] 100) = W := ⟨_, rfl⟩
  have q1 : W1.heap[w.heap.size]? = some (.cells #[] 100 (0, 0)) := by rw [← hW1]; exact heap_alloc_new _ _
  have b1 : Below w.heap.size w W1 := by rw [← hW1]; exact (Below.refl _ _).alloc (Nat.le_refl _) _
  have o0 := Lib.hid (show W1.ownsRow w.heap.size 100 65 (.slice (some ⟨w.heap.size, 0, none⟩) 0 0) 0 [] from ⟨by simp, .inr ⟨w.heap.size, 0, _, rfl, Nat.le_refl _, q1, Nat.le_refl _, by simp [maxLen], by simp, by simp⟩⟩)
  have h' : W1.ownsRow 0 100 65 (.slice (some ⟨g, 0, none⟩) n cap) n xs := own_stays h fun k e => b1.block k (h.lt k e).2
  have HL := Lib.hid (show xs.length = n * 65 from h.1)
  have HN := Lib.hid (show ∀ j u, xs[j]? = some u → W1.cell? ((⟨g, 0, none⟩ : Addr).add j) = some u from fun j u hu => by
    rw [Addr.add_mid, Nat.zero_add, h'.cellAt j (by have := (List.getElem?_eq_some_iff.1 hu).1; have := h.1; omega)]; exact hu)
  have HB := Lib.hid b1
  have H1 := Lib.hid h1
  have HI := Lib.hid hi
  clear h h' q1 b1 h1 hi
  go_enter Try.func51, Try.ntmps51
  go_wp2_with (at_builtin; go_loud (refine wpList_append_far W1 (by rfl) (.tmp 5) (.tmp 6) 90 (by rfl) w.heap.size 100 i0 _ 65 72 Try.underlying90 HI.out hz0 hz1 hz2 (by rfl) (by decide) (.slice (some ⟨w.heap.size, 0, none⟩) 0 0) 0 [] (by rfl) o0.out ⟨g, 0, none⟩ n cap xs (by rfl) HL.out HN.out H1.out hn (by simp only [maxLen]; omega) (by omega) HB.out.size ?_; intro g' cap' w2 own2 gr2 at2; rw [Nat.zero_add, List.nil_append] at own2; have O2 := Lib.hid own2; have B2 := Lib.hid (show Below w.heap.size w w2 from HB.out.grown gr2 HB.out.size (fun k e => Nat.le_of_eq (by simpa [Value.ownBlock] using e))); clear own2 gr2 at2))
  go_ret
  exact ⟨g', cap', rfl, O2.out, B2.out⟩

set_option maxHeartbeats 1000000 in
theorem clone_i (w : World) (g n cap : Nat) (xs : List Value) (h : w.ownsRow 0 3 1 (.slice (some ⟨g, 0, none⟩) n cap) n xs) (h1 : ∀ u ∈ xs, u.oneCell' = true) (hn : 0 < n) (hm : n ≤ 16384) :
    Calls Try.prog 52 #[.slice (some ⟨g, 0, none⟩) n cap] w (CloneIs w 3 1 n xs) := by
  have he := fun w => eqnil_isnt 35 _ Try.underlying35 w ⟨g, 0, none⟩ n cap
  obtain ⟨i0, hi, hz0, hz1, hz2⟩ := info_parts info_int
  obtain ⟨W1, hW1⟩ : ∃ W, w.alloc (.cells #[] 3) = W := ⟨_, rfl⟩
  have q1 : W1.heap[w.heap.size]? = some (.cells #[] 3 (0, 0)) := by rw [← hW1]; exact heap_alloc_new _ _
  have b1 : Below w.heap.size w W1 := by rw [← hW1]; exact (Below.refl _ _).alloc (Nat.le_refl _) _
  have o0 := Lib.hid (show W1.ownsRow w.heap.size 3 1 (.slice (some ⟨w.heap.size, 0, none⟩) 0 0) 0 [] from ⟨by simp, .inr ⟨w.heap.size, 0, _, rfl, Nat.le_refl _, q1, Nat.le_refl _, by simp [maxLen], by simp, by simp⟩⟩)
  have h' : W1.ownsRow 0 3 1 (.slice (some ⟨g, 0, none⟩) n cap) n xs := own_stays h fun k e => b1.block k (h.lt k e).2
  have HL := Lib.hid (show xs.length = n * 1 from h.1)
  have HN := Lib.hid (show ∀ j u, xs[j]? = some u → W1.cell? ((⟨g, 0, none⟩ : Addr).add j) = some u from fun j u hu => by
    rw [Addr.add_mid, Nat.zero_add, h'.cellAt j (by have := (List.getElem?_eq_some_iff.1 hu).1; have := h.1; omega)]; exact hu)
  have HB := Lib.hid b1
  have H1 := Lib.hid h1
  have HI := Lib.hid hi
  clear h h' q1 b1 h1 hi
  go_enter Try.func52, Try.ntmps52
  go_wp2_with (at_builtin; go_loud (refine wpList_append_far W1 (by rfl) (.tmp 5) (.tmp 6) 35 (by rfl) w.heap.size 3 i0 _ 1 8 Try.underlying35 HI.out hz0 hz1 hz2 (by rfl) (by decide) (.slice (some ⟨w.heap.size, 0, none⟩) 0 0) 0 [] (by rfl) o0.out ⟨g, 0, none⟩ n cap xs (by rfl) HL.out HN.out H1.out hn (by simp only [maxLen]; omega) (by omega) HB.out.size ?_; intro g' cap' w2 own2 gr2 at2; rw [Nat.zero_add, List.nil_append] at own2; have O2 := Lib.hid own2; have B2 := Lib.hid (show Below w.heap.size w w2 from HB.out.grown gr2 HB.out.size (fun k e => Nat.le_of_eq (by simpa [Value.ownBlock] using e))); clear own2 gr2 at2))
  go_ret
  exact ⟨g', cap', rfl, O2.out, B2.out⟩

theorem clone_nil (w : World) : Calls Try.prog 51 #[.slice none 0 0] w fun e w' => e = .returned (.slice none 0 0) ∧ w = w' := by
  have he := fun w => eqnil_is 90 _ Try.underlying90 w
  go_enter Try.func51, Try.ntmps51
  go_wp2
  go_ret
  exact ⟨rfl, rfl⟩
theorem flat_one {α : Type} {f : α → List Value} (h : ∀ x, ∀ v ∈ f x, v.oneCell' = true) (l : List α) : ∀ u ∈ l.flatMap f, u.oneCell' = true := fun u hu => by
  obtain ⟨x, _, hx⟩ := List.mem_flatMap.1 hu
  exact h x u hx

/-- What Clone leaves: a disk of its own in new memory. -/
def CloneOf (w : World) (S : St) (e : Ending) (w' : World) : Prop := ∃ d2, e = .returned (.pointer (some ⟨d2, 0, none⟩)) ∧ PD (fun k => w.heap.size ≤ k) w' d2 S ∧ Below w.heap.size w w'

theorem clone_dv {w W : World} {S : St} {nw : List Int} {gl cl gn cn d2 : Nat} {vp : Value} (wf : Wf S) (hnw : NwOk S nw)
    (hb : W.heap[d2]? = some (.cells #[.slice (some ⟨gl, 0, none⟩) S.last.length cl, vp, .slice (some ⟨gn, 0, none⟩) S.last.length cn, .bool S.off, .int .i64 S.plan, .int .i64 S.writes, .int .i64 S.syncs] 92 (0, 0)))
    (h1 : W.ownsRow w.heap.size 97 65 (.slice (some ⟨gl, 0, none⟩) S.last.length cl) S.last.length (S.last.flatMap Cn.cells)) (h2 : W.ownsRow w.heap.size 100 65 vp S.pend.length (S.pend.flatMap Wr.cells))
    (h3 : W.ownsRow w.heap.size 3 1 (.slice (some ⟨gn, 0, none⟩) S.last.length cn) S.last.length (nw.map (Value.int .i64))) (hp : S.pend = [] → vp = .slice none 0 0)
    (e0 : w.heap.size ≤ d2) (e1 : gl ≠ d2) (e2 : gn ≠ d2) (e3 : gl ≠ gn) (e4 : vp.ownBlock ≠ some d2) (e5 : vp.ownBlock ≠ some gl) (e6 : vp.ownBlock ≠ some gn) : PD (fun k => w.heap.size ≤ k) W d2 S := by
  refine ⟨nw, _, vp, _, ⟨wf, hb, own_base h1 (fun _ _ => Nat.zero_le _), own_base h2 (fun _ _ => Nat.zero_le _), own_base h3 (fun _ _ => Nat.zero_le _), hp, e0, fun k e => ?_, fun k e => ⟨(h2.lt k e).1, fun e' => e4 (e' ▸ e), fun e' => ?_⟩, fun k e => ?_⟩, hnw⟩
  · have ek : gl = k := by simpa [Value.ownBlock] using e
    subst ek; exact ⟨(h1.lt gl rfl).1, e1⟩
  · have ek : gl = k := by simpa [Value.ownBlock] using e'
    subst ek; exact e5 e
  · have ek : gn = k := by simpa [Value.ownBlock] using e
    subst ek
    exact ⟨(h3.lt gn rfl).1, e2, by simpa [Value.ownBlock] using e3, e6⟩

/-- Ahead of the third row's clone. -/
structure CLay (w W4 : World) (S : St) (nw : List Int) (gn cn g2 k2 : Nat) (vp : Value) : Prop where
  newest : W4.ownsRow 0 3 1 (.slice (some ⟨gn, 0, none⟩) S.last.length cn) S.last.length (nw.map (Value.int .i64))
  lt : w.heap.size < W4.heap.size
  blk : W4.heap[w.heap.size]? = some (.cells #[.slice (some ⟨g2, 0, none⟩) S.last.length k2, vp, .slice (some ⟨gn, 0, none⟩) S.last.length cn, .bool S.off, .int .i64 S.plan, .int .i64 S.writes, .int .i64 S.syncs] 92 (0, 0))
  last : W4.ownsRow w.heap.size 97 65 (.slice (some ⟨g2, 0, none⟩) S.last.length k2) S.last.length (S.last.flatMap Cn.cells)
  gg : w.heap.size < g2 ∧ g2 < W4.heap.size
  below : Below w.heap.size w W4
  vlt : ∀ k, vp.ownBlock = some k → w.heap.size < k ∧ k ≠ g2 ∧ k < W4.heap.size

theorem clone_lay {F : Nat → Prop} {w W1 w2 : World} {d : Nat} {S : St} {nw : List Int} {gl cl gn cn g2 k2 : Nat} {vp : Value} (h : Dv F w d S nw (.slice (some ⟨gl, 0, none⟩) S.last.length cl) vp (.slice (some ⟨gn, 0, none⟩) S.last.length cn)) (b1 : Below w.heap.size w W1) (s1 : W1.heap.size = w.heap.size + 1) (b2 : Below W1.heap.size W1 w2)
    (q2 : w2.heap[w.heap.size]? = some (.cells #[.slice (some ⟨gl, 0, none⟩) S.last.length cl, vp, .slice (some ⟨gn, 0, none⟩) S.last.length cn, .bool S.off, .int .i64 S.plan, .int .i64 S.writes, .int .i64 S.syncs] 92 (0, 0)))
    (o2 : w2.ownsRow W1.heap.size 97 65 (.slice (some ⟨g2, 0, none⟩) S.last.length k2) S.last.length (S.last.flatMap Cn.cells)) (hlo : 0 < S.last.length) (v : Value) (W4 : World) (hW4 : W4 = (w2.setCell ⟨w.heap.size, 0, none⟩ (.slice (some ⟨g2, 0, none⟩) S.last.length k2)).setCell ⟨w.heap.size, 1, none⟩ (.slice none 0 0)) :
    CLay w W4 S nw gn cn g2 k2 (.slice none 0 0) := by
  have hs4 : W4.heap.size = w2.heap.size := by rw [hW4]; simp [World.setCell]
  have hk : ∀ k, k ≠ w.heap.size → W4.heap[k]? = w2.heap[k]? := fun k hk => by rw [hW4, heap_setCell_ne _ _ _ _ k hk, heap_setCell_ne _ _ _ _ k hk]
  have l2 := o2.lt g2 rfl
  have s2 := b2.size
  refine ⟨own_stays h.newest fun k e => ?_, by omega, by rw [hW4, blk_set (blk_set q2 0 _) 1 _]; rfl, own_base (own_stays o2 fun k e => hk k ?_) (fun k e => by have := (o2.lt k e).1; omega), by omega, ?_, fun k e => by simp [Value.ownBlock] at e⟩
  · have := (h.newest.lt k e).2
    exact (hk k (by omega)).trans ((b2.block k (by omega)).trans (b1.block k this))
  · have := (o2.lt k e).1; omega
  · rw [hW4]
    exact ((b1.trans (b2.mono (by omega))).setCell (p := ⟨w.heap.size, 0, none⟩) (Nat.le_refl _) _).setCell (p := ⟨w.heap.size, 1, none⟩) (Nat.le_refl _) _
theorem clone_lay2 {F : Nat → Prop} {w W1 w2 w3 : World} {d : Nat} {S : St} {nw : List Int} {gl cl gn cn g2 k2 g3 k3 : Nat} {vp : Value} (h : Dv F w d S nw (.slice (some ⟨gl, 0, none⟩) S.last.length cl) vp (.slice (some ⟨gn, 0, none⟩) S.last.length cn)) (b1 : Below w.heap.size w W1) (s1 : W1.heap.size = w.heap.size + 1) (b2 : Below W1.heap.size W1 w2)
    (o2 : w2.ownsRow W1.heap.size 97 65 (.slice (some ⟨g2, 0, none⟩) S.last.length k2) S.last.length (S.last.flatMap Cn.cells))
    (o3 : w3.ownsRow (w2.setCell ⟨w.heap.size, 0, none⟩ (.slice (some ⟨g2, 0, none⟩) S.last.length k2)).heap.size 100 65 (.slice (some ⟨g3, 0, none⟩) S.pend.length k3) S.pend.length (S.pend.flatMap Wr.cells))
    (b3 : Below (w2.setCell ⟨w.heap.size, 0, none⟩ (.slice (some ⟨g2, 0, none⟩) S.last.length k2)).heap.size (w2.setCell ⟨w.heap.size, 0, none⟩ (.slice (some ⟨g2, 0, none⟩) S.last.length k2)) w3)
    (q3 : w3.heap[w.heap.size]? = some (.cells (#[.slice (some ⟨gl, 0, none⟩) S.last.length cl, vp, .slice (some ⟨gn, 0, none⟩) S.last.length cn, .bool S.off, .int .i64 S.plan, .int .i64 S.writes, .int .i64 S.syncs].setIfInBounds 0 (.slice (some ⟨g2, 0, none⟩) S.last.length k2)) 92 (0, 0)))
    (hlo : 0 < S.last.length) (hp0 : 0 < S.pend.length) (W4 : World) (hW4 : W4 = w3.setCell ⟨w.heap.size, 1, none⟩ (.slice (some ⟨g3, 0, none⟩) S.pend.length k3)) :
    CLay w W4 S nw gn cn g2 k2 (.slice (some ⟨g3, 0, none⟩) S.pend.length k3) ∧ W4.ownsRow w.heap.size 100 65 (.slice (some ⟨g3, 0, none⟩) S.pend.length k3) S.pend.length (S.pend.flatMap Wr.cells) := by
  have hz2 : (w2.setCell ⟨w.heap.size, 0, none⟩ (.slice (some ⟨g2, 0, none⟩) S.last.length k2)).heap.size = w2.heap.size := by simp [World.setCell]
  rw [hz2] at o3 b3
  have hs4 : W4.heap.size = w3.heap.size := by rw [hW4]; simp [World.setCell]
  have hk : ∀ k, k ≠ w.heap.size → W4.heap[k]? = w3.heap[k]? := fun k hk => by rw [hW4, heap_setCell_ne _ _ _ _ k hk]
  have hk3 : ∀ k, k < w2.heap.size → k ≠ w.heap.size → w3.heap[k]? = w2.heap[k]? := fun k h1 h2 => (b3.block k h1).trans (heap_setCell_ne _ _ _ _ k h2)
  have l2 := o2.lt g2 rfl
  have l3 := o3.lt g3 rfl
  have s2 := b2.size
  have s3 : w2.heap.size ≤ w3.heap.size := by have := b3.size; rwa [hz2] at this
  have bb : Below w.heap.size w w3 := ((b1.trans (b2.mono (by omega))).setCell (p := ⟨w.heap.size, 0, none⟩) (Nat.le_refl _) _).trans (b3.mono (by omega))
  refine ⟨⟨own_stays h.newest fun k e => ?_, by omega, by rw [hW4, blk_set q3 1 _]; rfl, own_base (own_stays o2 fun k e => ?_) (fun k e => by have := (o2.lt k e).1; omega), by omega, ?_, fun k e => ?_⟩, own_base (own_stays o3 fun k e => hk k ?_) (fun k e => by have := (o3.lt k e).1; omega)⟩
  · have := (h.newest.lt k e).2
    exact (hk k (by omega)).trans ((hk3 k (by omega) (by omega)).trans ((b2.block k (by omega)).trans (b1.block k this)))
  · have := o2.lt k e
    exact (hk k (by omega)).trans (hk3 k this.2 (by omega))
  · rw [hW4]
    exact bb.setCell (p := ⟨w.heap.size, 1, none⟩) (Nat.le_refl _) _
  · have ek : g3 = k := by simpa [Value.ownBlock] using e
    subst ek; exact ⟨by omega, by omega, by rw [hs4]; exact l3.2⟩
  · have := (o3.lt k e).1; omega
theorem clone_below {w W4 w5 : World} {S : St} {nw : List Int} {gn cn g2 k2 : Nat} {vp : Value} (L : CLay w W4 S nw gn cn g2 k2 vp) (b5 : Below W4.heap.size W4 w5) (v : Value) : Below w.heap.size w (w5.setCell ⟨w.heap.size, 2, none⟩ v) :=
  (L.below.trans (b5.mono (Nat.le_of_lt L.lt))).setCell (p := ⟨w.heap.size, 2, none⟩) (Nat.le_refl _) _
theorem clone_end {w W4 w5 : World} {S : St} {nw : List Int} {gn cn g2 k2 g5 k5 : Nat} {vp : Value} (wf : Wf S) (hnw : NwOk S nw) (L : CLay w W4 S nw gn cn g2 k2 vp) (o5 : w5.ownsRow W4.heap.size 3 1 (.slice (some ⟨g5, 0, none⟩) S.last.length k5) S.last.length (nw.map (Value.int .i64))) (b5 : Below W4.heap.size W4 w5)
    (op : W4.ownsRow w.heap.size 100 65 vp S.pend.length (S.pend.flatMap Wr.cells)) (hp : S.pend = [] → vp = .slice none 0 0) : PD (fun k => w.heap.size ≤ k) (w5.setCell ⟨w.heap.size, 2, none⟩ (.slice (some ⟨g5, 0, none⟩) S.last.length k5)) w.heap.size S := by
  have l5 := o5.lt g5 rfl
  have hlt := L.lt
  have hg2 := L.gg
  have ho := heap_setCell_ne w5 w.heap.size 2 (.slice (some ⟨g5, 0, none⟩) S.last.length k5)
  refine clone_dv (gl := g2) (cl := k2) (gn := g5) (cn := k5) (vp := vp) wf hnw (by rw [blk_set ((b5.block _ hlt).trans L.blk) 2 _]; rfl) (own_stays L.last fun k e => ?_) (own_stays op fun k e => ?_) (own_base (own_stays o5 fun k e => ho k ?_) (fun k e => by have := (o5.lt k e).1; omega)) hp (Nat.le_refl _) (by omega) (by omega) (by omega) (fun e => ?_) (fun e => ?_) (fun e => ?_)
  · have ek : g2 = k := by simpa [Value.ownBlock] using e
    subst ek; exact (ho g2 (by omega)).trans (b5.block g2 hg2.2)
  · have := L.vlt k e
    exact (ho k (by omega)).trans (b5.block k this.2.2)
  · have := (o5.lt k e).1; omega
  · have := (L.vlt _ e).1; omega
  · exact (L.vlt _ e).2.1 rfl
  · have := (L.vlt _ e).2.2; omega

set_option maxHeartbeats 4000000 in
theorem pclone {F : Nat → Prop} {w : World} {d : Nat} {S : St} (h : PD F w d S) (hm : S.pend.length < 2199023255552) :
    Calls Try.prog 16 #[.pointer (some ⟨d, 0, none⟩)] w (CloneOf w S) := by
  obtain ⟨nw, vl, vp, vn, h, hn⟩ := h
  have md := dmade h
  have wf := h.wf
  have hdl := h.dlt
  obtain ⟨gl, cl, rfl, -, -⟩ := h.lform
  obtain ⟨gn, cn, rfl, -, -⟩ := h.nform
  have c0 := h.c0
  have c1 := h.c1
  have c2 := h.c2
  have c3 := h.c3
  have c4 := h.c4
  have c5 := h.c5
  have c6 := h.c6
  have HWF := Lib.hid wf
  have HNW := Lib.hid hn
  have HD := Lib.hid h
  have HDL := Lib.hid hdl
  have hlo := wf.lo
  have hhi := wf.hi
  have HPF := Lib.hid h.pform
  obtain ⟨W1, hW1⟩ : ∃ W, w.alloc (.cells #[.slice (some ⟨gl, 0, none⟩) S.last.length cl, vp, .slice (some ⟨gn, 0, none⟩) S.last.length cn, .bool S.off, .int .i64 S.plan, .int .i64 S.writes, .int .i64 S.syncs] 92) = W := ⟨_, rfl⟩
  have q1 : W1.heap[w.heap.size]? = some (.cells #[.slice (some ⟨gl, 0, none⟩) S.last.length cl, vp, .slice (some ⟨gn, 0, none⟩) S.last.length cn, .bool S.off, .int .i64 S.plan, .int .i64 S.writes, .int .i64 S.syncs] 92 (0, 0)) := by rw [← hW1]; exact heap_alloc_new _ _
  have HB1 := Lib.hid (show Below w.heap.size w W1 by rw [← hW1]; exact (Below.refl _ _).alloc (Nat.le_refl _) _)
  have HQ1 := Lib.hid q1
  have HS1 := Lib.hid (show W1.heap.size = w.heap.size + 1 by rw [← hW1]; simp)
  have d1 := keep_below c1 HB1.out
  have d2 := keep_below c2 HB1.out
  have d0 := keep_below c0 HB1.out
  have CC := Lib.hid (clone_c W1 gl S.last.length cl _ (own_stays HD.out.last fun k e => HB1.out.block k (HD.out.last.lt k e).2) (flat_one Cn.one _) (by omega) hhi)
  have HHI := Lib.hid hhi
  have HLO := Lib.hid hlo
  clear h hn wf q1 hdl hhi hlo
  rcases HPF.out with ⟨hp0, rfl⟩ | ⟨gp, capp, rfl, hp0, -, -⟩
  · have HP0 := Lib.hid hp0
    clear hp0
    go_enter Try.func16, Try.ntmps16
    go_wp2_with (first
      | (go_at_call 49; refine md.mono ?_; rintro e w' ⟨rfl, rfl⟩)
      | (go_at_call 50; go_loud (refine CC.out.mono ?_; rintro e w2 ⟨g2, k2, rfl, o2, b2⟩; have O2 := Lib.hid o2; have B2 := Lib.hid b2; have Q2 := Lib.hid ((b2.block w.heap.size (by have := HS1.out; omega)).trans HQ1.out); have x0 := cell_of_row w2 _ 0 _ _ _ Q2.out; have x1 := cell_of_row w2 _ 1 _ _ _ Q2.out; have x2 := cell_of_row w2 _ 2 _ _ _ Q2.out; have y0 := frozen_of_row w2 _ 0 _ _ Q2.out; have y1 := frozen_of_row w2 _ 1 _ _ Q2.out; have y2 := frozen_of_row w2 _ 2 _ _ Q2.out; have d1' := keep_below d1 b2; have d2' := keep_below d2 b2; clear o2 b2 CC))
      | (go_at_call 51; refine (clone_nil _).mono ?_; rintro e w' ⟨rfl, rfl⟩)
      | (go_at_call 52; go_loud (obtain ⟨W4, hW4⟩ : ∃ W, (w2.setCell ⟨w.heap.size, 0, none⟩ (.slice (some ⟨g2, 0, none⟩) S.last.length k2)).setCell ⟨w.heap.size, 1, none⟩ (.slice none 0 0) = W := ⟨_, rfl⟩; rw [hW4]; have L4 := Lib.hid (clone_lay HD.out HB1.out HS1.out B2.out Q2.out O2.out HLO.out (.slice none 0 0) W4 hW4.symm); refine Calls.mono (clone_i W4 gn S.last.length cn _ L4.out.newest (ints_oneCell _ _) HLO.out HHI.out) ?_; rintro e w5 ⟨g5, k5, rfl, o5, b5⟩; have O5 := Lib.hid o5; have B5 := Lib.hid b5; have Q5 := Lib.hid ((b5.block w.heap.size L4.out.lt).trans L4.out.blk); have z2 := cell_of_row w5 _ 2 _ _ _ Q5.out; have t2 := frozen_of_row w5 _ 2 _ _ Q5.out; clear o5 b5 hW4)))
    go_ret
    exact ⟨_, rfl, clone_end HWF.out HNW.out L4.out O5.out B5.out (World.ownsRow_nil _ _ _ _ |> fun t => by rw [HP0.out]; exact t) (fun _ => rfl), clone_below L4.out B5.out _⟩
  · have CP := Lib.hid (fun w2 (b2 : Below W1.heap.size W1 w2) v => clone_w (w2.setCell ⟨w.heap.size, 0, none⟩ v) gp S.pend.length capp _ (own_stays HD.out.pend fun k e => (heap_setCell_ne _ _ _ _ k (by have := (HD.out.pend.lt k e).2; omega)).trans ((b2.block k (by have := (HD.out.pend.lt k e).2; have := HS1.out; omega)).trans (HB1.out.block k (HD.out.pend.lt k e).2))) (flat_one Wr.one _) hp0 (by omega))
    have HP0 := Lib.hid hp0
    clear hp0
    go_enter Try.func16, Try.ntmps16
    go_wp2_with (first
      | (go_at_call 49; refine md.mono ?_; rintro e w' ⟨rfl, rfl⟩)
      | (go_at_call 50; go_loud (refine CC.out.mono ?_; rintro e w2 ⟨g2, k2, rfl, o2, b2⟩; have O2 := Lib.hid o2; have B2 := Lib.hid b2; have Q2 := Lib.hid ((b2.block w.heap.size (by have := HS1.out; omega)).trans HQ1.out); have x0 := cell_of_row w2 _ 0 _ _ _ Q2.out; have x1 := cell_of_row w2 _ 1 _ _ _ Q2.out; have x2 := cell_of_row w2 _ 2 _ _ _ Q2.out; have y0 := frozen_of_row w2 _ 0 _ _ Q2.out; have y1 := frozen_of_row w2 _ 1 _ _ Q2.out; have y2 := frozen_of_row w2 _ 2 _ _ Q2.out; have d1' := keep_below d1 b2; have d2' := keep_below d2 b2; clear o2 b2 CC))
      | (go_at_call 51; go_loud (refine (CP.out w2 B2.out _).mono ?_; rintro e w3 ⟨g3, k3, rfl, o3, b3⟩; have O3 := Lib.hid o3; have B3 := Lib.hid b3; have Q3 := Lib.hid ((b3.block w.heap.size (by have := B2.out.size; have := HS1.out; simp [World.setCell]; omega)).trans (blk_set Q2.out 0 _)); have x1' := cell_of_row w3 _ 1 _ _ _ Q3.out; have y1' := frozen_of_row w3 _ 1 _ _ Q3.out; have d2'' : w3.cell? ⟨d, 2, none⟩ = some (.slice (some ⟨gn, 0, none⟩) S.last.length cn) := keep_below (by rw [World.cell?_setCell_far _ _ _ _ (by simp; have := HDL.out; omega)]; exact d2') b3; clear o3 b3 CP))
      | (go_at_call 52; go_loud (obtain ⟨W4, hW4⟩ : ∃ W, w3.setCell ⟨w.heap.size, 1, none⟩ (.slice (some ⟨g3, 0, none⟩) S.pend.length k3) = W := ⟨_, rfl⟩; rw [hW4]; have L4 := Lib.hid (clone_lay2 HD.out HB1.out HS1.out B2.out O2.out O3.out B3.out Q3.out HLO.out HP0.out W4 hW4.symm); refine Calls.mono (clone_i W4 gn S.last.length cn _ L4.out.1.newest (ints_oneCell _ _) HLO.out HHI.out) ?_; rintro e w5 ⟨g5, k5, rfl, o5, b5⟩; have O5 := Lib.hid o5; have B5 := Lib.hid b5; have Q5 := Lib.hid ((b5.block w.heap.size L4.out.1.lt).trans L4.out.1.blk); have z2 := cell_of_row w5 _ 2 _ _ _ Q5.out; have t2 := frozen_of_row w5 _ 2 _ _ Q5.out; clear o5 b5 hW4)))
    go_ret
    exact ⟨_, rfl, clone_end HWF.out HNW.out L4.out.1 O5.out B5.out L4.out.2 (fun e => by have := HP0.out; rw [e] at this; exact absurd this (by simp)), clone_below L4.out.1 B5.out _⟩
end Go.Proofs.Ytapjgancaldgaaa
