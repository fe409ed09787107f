import Derived.Test.YtknppiebncdjmaaGreatJBJ
import Derived.Test.YtknppiebncdjmaaGreatJAK
set_option linter.unusedVariables false
namespace Go.Proofs.YtknppiebncdjmaaGreat
set_option maxRecDepth 100000
open Go.RowKit

section
variable {w0 w w' w1 : World} {G : Nat → Prop} {p m : Nat} {V V' : WdV} {rows : List Lk} {vs vs' : List Ver10} {ms ms' : List RunM} {bad : Bool}
theorem WdAt.writes (h : WdAt w0 w G p m V rows vs ms bad) (hGlt : ∀ k, G k → k < w.heap.size) {i g g1 c1 : Nat} {x : RunM} {rd : Lk} (hi : ms[i]? = some x) (hg : V.la = some ⟨g, 0, none⟩)
    (hso : SO seL w0.heap.size w1 (.slice (some ⟨g1, 0, none⟩) (x.r.writes.length + 1) c1) (x.r.writes.length + 1) (cellsF lkC x.r.writes ++ cellsF lkC [rd])) (hgr : w.grownBy w1 x.wv.ownBlock) (hl : x.wv.ownBlock = some g1 ∨ w.heap.size ≤ g1) :
    WdAt w0 (w1.setCell ⟨g, i * 8 + 7, none⟩ (.slice (some ⟨g1, 0, none⟩) (x.r.writes.length + 1) c1)) G p m V rows vs (ms.set i { x with r := { x.r with writes := x.r.writes ++ [rd] }, wa := some ⟨g1, 0, none⟩, wc := c1 }) bad := by
  obtain ⟨x', hx'⟩ : ∃ x', ({ x with r := { x.r with writes := x.r.writes ++ [rd] }, wa := some ⟨g1, 0, none⟩, wc := c1 } : RunM) = x' := ⟨_, rfl⟩
  rw [hx']
  have hgm : g ∈ ownA V.la := by rw [hg]; simp [ownA]
  obtain ⟨f1, f2, f3, f4⟩ := h.far.1 g hgm
  have hxm := List.mem_of_getElem? hi
  obtain ⟨a, b, e1, -, e2⟩ := flat_set_own (x' := x') hi
  -- where the run's own blocks stand among the others
  have hpart : p :: ownersW V ms = (p :: (ownA V.ra ++ ownA V.va ++ ownA V.la ++ a.flatMap runOwn)) ++ runOwn x ++ b.flatMap runOwn := by
    unfold ownersW; rw [e1]; simp [List.append_assoc]
  have hpart' : p :: ownersW V (ms.set i x') = (p :: (ownA V.ra ++ ownA V.va ++ ownA V.la ++ a.flatMap runOwn)) ++ runOwn x' ++ b.flatMap runOwn := by
    unfold ownersW; rw [e2]; simp [List.append_assoc]
  have hsep := h.sep
  rw [hpart] at hsep
  have hox' : runOwn x' = ownA x.ra ++ [g1] := by rw [← hx']; rfl
  have hg1 : g1 ∈ runOwn x ∨ w.heap.size ≤ g1 := by
    rcases hl with hl | hl
    · exact .inl (List.mem_append.2 (.inr (ownA_mem hl)))
    · exact .inr hl
  have hg1wa : g1 ∉ ownA x.ra := by
    rcases hl with hl | hl
    · intro hw
      have h2 := (List.nodup_append.1 (List.nodup_append.1 hsep).1).2.1
      unfold runOwn at h2
      exact (List.nodup_append.1 h2).2.2 g1 hw g1 (ownA_mem hl) rfl
    · intro hw
      have := (h.runs x hxm).1.lt10 g1 hw
      omega
  have hwan : (ownA x.ra).Nodup := by cases x.ra <;> simp [ownA]
  have hnew : (p :: ownersW V (ms.set i x')).Nodup := by
    rw [hpart']
    refine nodup_swap hsep ?_ fun k hk => ?_
    · rw [hox']
      refine List.nodup_append.2 ⟨hwan, by simp, fun a1 ha1 b1 hb1 e => ?_⟩
      rw [List.mem_singleton.1 hb1] at e
      exact hg1wa (e ▸ ha1)
    · rw [hox'] at hk
      rcases List.mem_append.1 hk with hk | hk
      · exact .inl (List.mem_append.2 (.inl hk))
      · have hkg : k = g1 := List.mem_singleton.1 hk
        subst hkg
        rcases hg1 with h1 | h1
        · exact .inl h1
        · right
          rw [← hpart]
          intro hk2
          have := (h.lt k hk2).2
          omega
  -- no other owner's block is the one that the append wrote, nor the list's
  have keep1 : ∀ k, k ∈ p :: ownersW V ms → k ∉ ownA x.wa → w1.heap[k]? = w.heap[k]? := fun k hk hne => hgr.block k (h.lt k hk).2 fun e => hne (ownA_mem (n := x.r.writes.length) (c := x.wc) e.symm)
  have far1 : ∀ k ∈ ownA x.wa, k ∉ p :: (ownA V.ra ++ ownA V.va ++ ownA V.la ++ a.flatMap runOwn) ∧ k ∉ b.flatMap runOwn ∧ k ∉ ownA x.ra := fun k hk => by
    have hkx : k ∈ runOwn x := List.mem_append.2 (.inr hk)
    obtain ⟨s1, s2, s3⟩ := List.nodup_append.1 hsep
    obtain ⟨t1, t2, t3⟩ := List.nodup_append.1 s1
    refine ⟨fun h1 => t3 k h1 k hkx rfl, fun h1 => s3 k (List.mem_append.2 (.inr hkx)) k h1 rfl, fun h1 => ?_⟩
    unfold runOwn at t2
    exact (List.nodup_append.1 t2).2.2 k h1 k hk rfl
  have keep2 : ∀ k, k ≠ g → (w1.setCell ⟨g, i * 8 + 7, none⟩ (.slice (some ⟨g1, 0, none⟩) (x.r.writes.length + 1) c1)).heap[k]? = w1.heap[k]? := fun k hne => Below.heap_setCell _ _ _ _ fun e => hne e
  obtain ⟨j1, j2, j3, j4⟩ := own_in V ms
  have hL1 : SO seU w0.heap.size w1 (.slice V.la ms.length V.lc) ms.length (cellsF runC ms) := h.list.keep10 fun k e => keep1 k (List.mem_cons_of_mem _ (j3 k (ownA_mem e))) fun hk => (far1 k hk).1 (by
    have := ownA_mem e
    simp only [List.mem_cons, List.mem_append]
    exact .inr (.inl (.inr this)))
  have hg1g : g1 ≠ g := fun e => by
    rcases hg1 with h1 | h1
    · exact f4 x hxm (e ▸ h1)
    · have := (h.list.lt10 g hgm).2; omega
  have hlist : SO seU w0.heap.size (w1.setCell ⟨g, i * 8 + 7, none⟩ (.slice (some ⟨g1, 0, none⟩) (x.r.writes.length + 1) c1)) (.slice V.la (ms.set i x').length V.lc) (ms.set i x').length (cellsF runC (ms.set i x')) := by
    rw [hg] at hL1 ⊢
    rw [List.length_set, cellsF_set runC_len hi (k := 7) (u := .slice (some ⟨g1, 0, none⟩) (x.r.writes.length + 1) c1) (by omega) (by rw [← hx']; simp [runC])]
    exact hL1.set10 _ rfl
  have ms_in : ∀ y ∈ ms.set i x', y = x' ∨ (y ∈ ms ∧ (∀ k ∈ runOwn y, k ∉ ownA x.wa)) := fun y hy => by
    rw [e2] at hy
    rcases List.mem_append.1 hy with hy | hy
    · rcases List.mem_append.1 hy with hy | hy
      · refine .inr ⟨by rw [e1]; simp [hy], fun k hk hx => (far1 k hx).1 ?_⟩
        simp only [List.mem_cons, List.mem_append, List.mem_flatMap]
        exact .inr (.inr ⟨y, hy, hk⟩)
      · exact .inl (List.mem_singleton.1 hy)
    · refine .inr ⟨by rw [e1]; simp [hy], fun k hk hx => (far1 k hx).2.1 (List.mem_flatMap.2 ⟨y, hy, hk⟩)⟩
  refine ⟨?_, ?_, ?_, hlist, fun y hy => ?_, hnew, fun k hk => ?_, h.pl⟩
  · rw [List.length_set]
    exact (keep2 p fun e => f1 e.symm).trans ((keep1 p (List.mem_cons_self ..) fun hk => (far1 p hk).1 (List.mem_cons_self ..)).trans h.blk)
  · refine h.rows_.keep10 fun k e => (keep2 k fun e2 => f2 (e2 ▸ ownA_mem e)).trans (keep1 k (List.mem_cons_of_mem _ (j1 k (ownA_mem e))) fun hk => (far1 k hk).1 ?_)
    have := ownA_mem e
    simp only [List.mem_cons, List.mem_append]
    exact .inr (.inl (.inl (.inl this)))
  · refine h.vers.keep10 fun k e => (keep2 k fun e2 => f3 (e2 ▸ ownA_mem e)).trans (keep1 k (List.mem_cons_of_mem _ (j2 k (ownA_mem e))) fun hk => (far1 k hk).1 ?_)
    have := ownA_mem e
    simp only [List.mem_cons, List.mem_append]
    exact .inr (.inl (.inl (.inr this)))
  · rcases ms_in y hy with rfl | ⟨hym, hyf⟩
    · rw [← hx']
      refine ⟨?_, ?_⟩
      rotate_left
      · have := hso.keep10 (w' := w1.setCell ⟨g, i * 8 + 7, none⟩ (.slice (some ⟨g1, 0, none⟩) (x.r.writes.length + 1) c1)) fun k e => keep2 k fun e2 => by
          have : k = g1 := by simpa [Value.ownBlock, eq_comm] using e
          exact hg1g (this.symm.trans e2)
        simp only [RunM.wv, List.length_append, List.length_singleton, cellsF_app]
        exact this
      · exact (h.runs x hxm).1.keep10 fun k e => (keep2 k fun e2 => f4 x hxm (by rw [← e2]; exact List.mem_append.2 (.inl (ownA_mem e)))).trans (keep1 k (List.mem_cons_of_mem _ (j4 x hxm k (List.mem_append.2 (.inl (ownA_mem e))))) fun hk => (far1 k hk).2.2 (ownA_mem e))
    · refine ⟨(h.runs y hym).1.keep10 fun k e => ?_, (h.runs y hym).2.keep10 fun k e => ?_⟩
      · have hk : k ∈ runOwn y := List.mem_append.2 (.inl (ownA_mem e))
        exact (keep2 k fun e2 => f4 y hym (e2 ▸ hk)).trans (keep1 k (List.mem_cons_of_mem _ (j4 y hym k hk)) (hyf k hk))
      · have hk : k ∈ runOwn y := List.mem_append.2 (.inr (ownA_mem e))
        exact (keep2 k fun e2 => f4 y hym (e2 ▸ hk)).trans (keep1 k (List.mem_cons_of_mem _ (j4 y hym k hk)) (hyf k hk))
  · by_cases hkg : k = g1 ∧ w.heap.size ≤ g1
    · intro hG
      have := hGlt k hG
      omega
    · refine h.ap k ?_
      rw [hpart'] at hk
      rw [hpart]
      rcases List.mem_append.1 hk with hk | hk
      · rcases List.mem_append.1 hk with hk | hk
        · exact List.mem_append.2 (.inl (List.mem_append.2 (.inl hk)))
        · rw [hox'] at hk
          rcases List.mem_append.1 hk with hk | hk
          · exact List.mem_append.2 (.inl (List.mem_append.2 (.inr (List.mem_append.2 (.inl hk)))))
          · have hkg1 : k = g1 := List.mem_singleton.1 hk
            rcases hg1 with h1 | h1
            · rw [hkg1]; exact List.mem_append.2 (.inl (List.mem_append.2 (.inr h1)))
            · exact absurd ⟨hkg1, h1⟩ hkg
      · exact List.mem_append.2 (.inr hk)
theorem WdAt.setBad (h : WdAt w0 w G p m V rows vs ms bad) (b : Bool) : WdAt w0 (w.setCell ⟨p, 4, none⟩ (.bool b)) G p m V rows vs ms b := by
  have keep : ∀ k, k ≠ p → (w.setCell ⟨p, 4, none⟩ (.bool b)).heap[k]? = w.heap[k]? := fun k hne => Below.heap_setCell _ _ _ _ fun e => hne e
  obtain ⟨n1, -⟩ := List.nodup_cons.1 h.sep
  obtain ⟨j1, j2, j3, j4⟩ := own_in V ms
  have ne : ∀ {k}, k ∈ ownersW V ms → k ≠ p := fun hk e => n1 (e ▸ hk)
  refine ⟨heap_setCell_same w p 4 _ _ (.bool b) h.blk, h.rows_.keep10 fun k e => keep k (ne (j1 k (ownA_mem e))), h.vers.keep10 fun k e => keep k (ne (j2 k (ownA_mem e))), h.list.keep10 fun k e => keep k (ne (j3 k (ownA_mem e))), fun y hy => ⟨(h.runs y hy).1.keep10 fun k e => keep k (ne (j4 y hy k (List.mem_append.2 (.inl (ownA_mem e))))), (h.runs y hy).2.keep10 fun k e => keep k (ne (j4 y hy k (List.mem_append.2 (.inr (ownA_mem e)))))⟩, h.sep, h.ap, h.pl⟩
theorem WdAt.setVers (h : WdAt w0 w G p m V rows vs ms bad) (hGlt : ∀ k, G k → k < w.heap.size) {g1 c1 : Nat} (hso : SO seV w0.heap.size w1 (.slice (some ⟨g1, 0, none⟩) vs'.length c1) vs'.length (cellsF verC vs')) (hgr : w.grownBy w1 (Value.slice V.va vs.length V.vc).ownBlock) (hl : (Value.slice V.va vs.length V.vc).ownBlock = some g1 ∨ w.heap.size ≤ g1) :
    WdAt w0 (w1.setCell ⟨p, 2, none⟩ (.slice (some ⟨g1, 0, none⟩) vs'.length c1)) G p m { V with va := some ⟨g1, 0, none⟩, vc := c1 } rows vs' ms bad := by
  obtain ⟨n1, -⟩ := List.nodup_cons.1 h.sep
  obtain ⟨j1, j2, j3, j4⟩ := own_in V ms
  have far := h.far.2
  have hg1 : g1 ∈ ownA V.va ∨ w.heap.size ≤ g1 := hl.imp ownA_mem id
  have hpart : p :: ownersW V ms = (p :: ownA V.ra) ++ ownA V.va ++ (ownA V.la ++ ms.flatMap runOwn) := by unfold ownersW; simp [List.append_assoc]
  have hpart' : p :: ownersW { V with va := some ⟨g1, 0, none⟩, vc := c1 } ms = (p :: ownA V.ra) ++ [g1] ++ (ownA V.la ++ ms.flatMap runOwn) := by unfold ownersW; simp [List.append_assoc, ownA]
  have hsep := h.sep
  rw [hpart] at hsep
  have hfresh : ∀ k ∈ [g1], k ∈ ownA V.va ∨ k ∉ (p :: ownA V.ra) ++ ownA V.va ++ (ownA V.la ++ ms.flatMap runOwn) := fun k hk => by
    rw [List.mem_singleton.1 hk]
    rcases hg1 with h1 | h1
    · exact .inl h1
    · right
      rw [← hpart]
      intro hk2
      have := (h.lt g1 hk2).2
      omega
  have hg1p : g1 ≠ p := fun e => by
    rcases hg1 with h1 | h1
    · exact (far g1 h1).1 e
    · have := (h.lt p (List.mem_cons_self ..)).2; omega
  have keep1 : ∀ k, k ∈ p :: ownersW V ms → k ∉ ownA V.va → w1.heap[k]? = w.heap[k]? := fun k hk hne => hgr.block k (h.lt k hk).2 fun e => hne (ownA_mem e.symm)
  have keep2 : ∀ k, k ≠ p → (w1.setCell ⟨p, 2, none⟩ (.slice (some ⟨g1, 0, none⟩) vs'.length c1)).heap[k]? = w1.heap[k]? := fun k hne => Below.heap_setCell _ _ _ _ fun e => hne e
  have ne : ∀ {k}, k ∈ ownersW V ms → k ≠ p := fun hk e => n1 (e ▸ hk)
  have both : ∀ {k}, k ∈ ownersW V ms → k ∉ ownA V.va → (w1.setCell ⟨p, 2, none⟩ (.slice (some ⟨g1, 0, none⟩) vs'.length c1)).heap[k]? = w.heap[k]? := fun hk hv => (keep2 _ (ne hk)).trans (keep1 _ (List.mem_cons_of_mem _ hk) hv)
  have hblk1 := (keep1 p (List.mem_cons_self ..) fun hk => (far p hk).1 rfl).trans h.blk
  refine ⟨heap_setCell_same w1 p 2 _ _ (.slice (some ⟨g1, 0, none⟩) vs'.length c1) hblk1, h.rows_.keep10 fun k e => both (j1 k (ownA_mem e)) fun hv => (far k hv).2.1 (ownA_mem e), hso.keep10 fun k e => keep2 k fun e2 => ?_, h.list.keep10 fun k e => both (j3 k (ownA_mem e)) fun hv => (far k hv).2.2.1 (ownA_mem e), fun y hy => ⟨(h.runs y hy).1.keep10 fun k e => both (j4 y hy k (List.mem_append.2 (.inl (ownA_mem e)))) fun hv => (far k hv).2.2.2 y hy (List.mem_append.2 (.inl (ownA_mem e))), (h.runs y hy).2.keep10 fun k e => both (j4 y hy k (List.mem_append.2 (.inr (ownA_mem e)))) fun hv => (far k hv).2.2.2 y hy (List.mem_append.2 (.inr (ownA_mem e)))⟩, ?_, fun k hk => ?_, h.pl⟩
  · have : k = g1 := by simpa [Value.ownBlock, eq_comm] using e
    exact hg1p (this.symm.trans e2)
  · rw [hpart']
    exact nodup_swap hsep (by simp) hfresh
  · rw [hpart'] at hk
    by_cases hkg : k = g1 ∧ w.heap.size ≤ g1
    · intro hG; have := hGlt k hG; omega
    · refine h.ap k ?_
      rw [hpart]
      rcases List.mem_append.1 hk with hk | hk
      · rcases List.mem_append.1 hk with hk | hk
        · exact List.mem_append.2 (.inl (List.mem_append.2 (.inl hk)))
        · have e1 : k = g1 := List.mem_singleton.1 hk
          rcases hg1 with h1 | h1
          · rw [e1]; exact List.mem_append.2 (.inl (List.mem_append.2 (.inr h1)))
          · exact absurd ⟨e1, h1⟩ hkg
      · exact List.mem_append.2 (.inr hk)
theorem WdAt.push (h : WdAt w0 w G p m V rows vs ms bad) (hGlt : ∀ k, G k → k < w.heap.size) {g1 c1 : Nat} {x : RunM} (hx : x.ra = none ∧ x.rc = 0 ∧ x.wa = none ∧ x.wc = 0 ∧ x.r.reads = [] ∧ x.r.writes = []) (hso : SO seU w0.heap.size w1 (.slice (some ⟨g1, 0, none⟩) (ms.length + 1) c1) (ms.length + 1) (cellsF runC ms ++ cellsF runC [x])) (hgr : w.grownBy w1 (Value.slice V.la ms.length V.lc).ownBlock) (hl : (Value.slice V.la ms.length V.lc).ownBlock = some g1 ∨ w.heap.size ≤ g1) :
    WdAt w0 (w1.setCell ⟨p, 3, none⟩ (.slice (some ⟨g1, 0, none⟩) (ms.length + 1) c1)) G p m { V with la := some ⟨g1, 0, none⟩, lc := c1 } rows vs (ms ++ [x]) bad := by
  obtain ⟨hx1, hx2, hx3, hx4, hx5, hx6⟩ := hx
  obtain ⟨n1, -⟩ := List.nodup_cons.1 h.sep
  obtain ⟨j1, j2, j3, j4⟩ := own_in V ms
  have far := h.far.1
  have hrx : runOwn x = [] := by unfold runOwn; rw [hx1, hx3]; rfl
  have hg1 : g1 ∈ ownA V.la ∨ w.heap.size ≤ g1 := hl.imp ownA_mem id
  have hpart : p :: ownersW V ms = (p :: (ownA V.ra ++ ownA V.va)) ++ ownA V.la ++ ms.flatMap runOwn := by unfold ownersW; simp [List.append_assoc]
  have hpart' : p :: ownersW { V with la := some ⟨g1, 0, none⟩, lc := c1 } (ms ++ [x]) = (p :: (ownA V.ra ++ ownA V.va)) ++ [g1] ++ ms.flatMap runOwn := by unfold ownersW; simp [List.append_assoc, ownA, hrx]
  have hsep := h.sep
  rw [hpart] at hsep
  have hfresh : ∀ k ∈ [g1], k ∈ ownA V.la ∨ k ∉ (p :: (ownA V.ra ++ ownA V.va)) ++ ownA V.la ++ ms.flatMap runOwn := fun k hk => by
    rw [List.mem_singleton.1 hk]
    rcases hg1 with h1 | h1
    · exact .inl h1
    · right
      rw [← hpart]
      intro hk2
      have := (h.lt g1 hk2).2
      omega
  have hg1p : g1 ≠ p := fun e => by
    rcases hg1 with h1 | h1
    · exact (far g1 h1).1 e
    · have := (h.lt p (List.mem_cons_self ..)).2; omega
  have keep1 : ∀ k, k ∈ p :: ownersW V ms → k ∉ ownA V.la → w1.heap[k]? = w.heap[k]? := fun k hk hne => hgr.block k (h.lt k hk).2 fun e => hne (ownA_mem e.symm)
  have keep2 : ∀ k, k ≠ p → (w1.setCell ⟨p, 3, none⟩ (.slice (some ⟨g1, 0, none⟩) (ms.length + 1) c1)).heap[k]? = w1.heap[k]? := fun k hne => Below.heap_setCell _ _ _ _ fun e => hne e
  have ne : ∀ {k}, k ∈ ownersW V ms → k ≠ p := fun hk e => n1 (e ▸ hk)
  have both : ∀ {k}, k ∈ ownersW V ms → k ∉ ownA V.la → (w1.setCell ⟨p, 3, none⟩ (.slice (some ⟨g1, 0, none⟩) (ms.length + 1) c1)).heap[k]? = w.heap[k]? := fun hk hv => (keep2 _ (ne hk)).trans (keep1 _ (List.mem_cons_of_mem _ hk) hv)
  have hblk1 := (keep1 p (List.mem_cons_self ..) fun hk => (far p hk).1 rfl).trans h.blk
  refine ⟨?_, h.rows_.keep10 fun k e => both (j1 k (ownA_mem e)) fun hv => (far k hv).2.1 (ownA_mem e), h.vers.keep10 fun k e => both (j2 k (ownA_mem e)) fun hv => (far k hv).2.2.1 (ownA_mem e), ?_, fun y hy => ?_, ?_, fun k hk => ?_, h.pl⟩
  · rw [List.length_append, List.length_singleton]
    exact heap_setCell_same w1 p 3 _ _ (.slice (some ⟨g1, 0, none⟩) (ms.length + 1) c1) hblk1
  · rw [List.length_append, List.length_singleton, cellsF_app]
    refine hso.keep10 fun k e => keep2 k fun e2 => ?_
    have : k = g1 := by simpa [Value.ownBlock, eq_comm] using e
    exact hg1p (this.symm.trans e2)
  · rcases List.mem_append.1 hy with hy | hy
    · exact ⟨(h.runs y hy).1.keep10 fun k e => both (j4 y hy k (List.mem_append.2 (.inl (ownA_mem e)))) fun hv => (far k hv).2.2.2 y hy (List.mem_append.2 (.inl (ownA_mem e))), (h.runs y hy).2.keep10 fun k e => both (j4 y hy k (List.mem_append.2 (.inr (ownA_mem e)))) fun hv => (far k hv).2.2.2 y hy (List.mem_append.2 (.inr (ownA_mem e)))⟩
    · rw [List.mem_singleton.1 hy]
      unfold RunM.rv RunM.wv
      rw [hx1, hx2, hx3, hx4, hx5, hx6]
      exact ⟨SO.nil _ _ _, SO.nil _ _ _⟩
  · rw [hpart']
    exact nodup_swap hsep (by simp) hfresh
  · rw [hpart'] at hk
    by_cases hkg : k = g1 ∧ w.heap.size ≤ g1
    · intro hG; have := hGlt k hG; omega
    · refine h.ap k ?_
      rw [hpart]
      rcases List.mem_append.1 hk with hk | hk
      · rcases List.mem_append.1 hk with hk | hk
        · exact List.mem_append.2 (.inl (List.mem_append.2 (.inl hk)))
        · have e1 : k = g1 := List.mem_singleton.1 hk
          rcases hg1 with h1 | h1
          · rw [e1]; exact List.mem_append.2 (.inl (List.mem_append.2 (.inr h1)))
          · exact absurd ⟨e1, h1⟩ hkg
      · exact List.mem_append.2 (.inr hk)
end
end Go.Proofs.YtknppiebncdjmaaGreat

namespace Go.Proofs.YtknppiebncdjmaaGreat
set_option maxRecDepth 100000
open Go.RowKit

theorem sb_red (X : World) (d : Lk × Int) : SB (X.alloc (.cells #[.string d.1.1, .string d.1.2, .int .i64 d.2] 135)) (some ⟨X.heap.size, 0, none⟩) (seD.s * 1) (cellsF redC [d]) := by
  refine ⟨rfl, ?_, fun _ => ⟨X.heap.size, 0, rfl, fun j u hj => ?_⟩⟩
  · intro u hu
    simp [cellsF, redC] at hu
    rcases hu with rfl | rfl | rfl <;> rfl
  · rw [cell_of_row _ _ _ _ _ _ (heap_alloc_new X (.cells #[.string d.1.1, .string d.1.2, .int .i64 d.2] 135))]
    simpa [cellsF, redC] using hj
def SeesRes (w0 w : World) (G : Nat → Prop) (p m : Nat) (V : WdV) (rows : List Lk) (vs : List Ver10) (ms : List RunM) (bad : Bool) (i : Nat) (r : Run10) (e : Ending) (w' : World) : Prop :=
  (∃ u, e = .returned u) ∧ ∃ x', x'.r = r ∧ WdAt w0 w' G p m V rows vs (ms.set i x') bad ∧ Out (fun k => k ∈ p :: ownersW V ms) w w'
theorem sees_end {w0 w X w5 : World} {G : Nat → Prop} {p m g g5 c5 i : Nat} {V : WdV} {rows : List Lk} {vs : List Ver10} {ms : List RunM} {bad : Bool} {x : RunM} {rd : Lk × Int} {r : Run10} {u : Value} (h : WdAt w0 w G p m V rows vs ms bad) (hb : Below w.heap.size w X) (hGlt : ∀ k, G k → k < w.heap.size) (hi : ms[i]? = some x) (hg : V.la = some ⟨g, 0, none⟩) (hr : { x.r with reads := x.r.reads ++ [rd] } = r)
    (o5 : SO seD w0.heap.size w5 (.slice (some ⟨g5, 0, none⟩) (x.r.reads.length + 1) c5) (x.r.reads.length + 1) (cellsF redC x.r.reads ++ cellsF redC [rd])) (b5 : X.grownBy w5 x.rv.ownBlock) (l5 : x.rv.ownBlock = some g5 ∨ g5 = X.heap.size) :
    SeesRes w0 w G p m V rows vs ms bad i r (.returned u) (w5.setCell ⟨g, i * 8 + 6, none⟩ (.slice (some ⟨g5, 0, none⟩) (x.r.reads.length + 1) c5)) := by
  have hX := h.below hb
  have hs := hb.size
  have hxm := List.mem_of_getElem? hi
  have hown : ∀ k, x.rv.ownBlock = some k → k ∈ p :: ownersW V ms := fun k hk => List.mem_cons_of_mem _ ((own_in V ms).2.2.2 x hxm k (List.mem_append.2 (.inl (ownA_mem hk))))
  have hgo : g ∈ p :: ownersW V ms := List.mem_cons_of_mem _ ((own_in V ms).2.2.1 g (by rw [hg]; simp [ownA]))
  refine ⟨⟨u, rfl⟩, _, hr, hX.reads (fun k hk => by have := hGlt k hk; omega) hi hg o5 b5 (l5.imp id fun e => by omega), ?_⟩
  refine Out.setCell (Out.grown (Out.of_below hb _) b5 fun k hk => .inl (hown k hk)) (.inl hgo) _
set_option maxHeartbeats 16000000 in
theorem wSees {w0 w : World} {G : Nat → Prop} {p m : Nat} {V : WdV} {rows : List Lk} {vs : List Ver10} {ms : List RunM} {bad : Bool} (h : WdAt w0 w G p m V rows vs ms bad) (hGlt : ∀ k, G k → k < w.heap.size) (hw0 : w0.heap.size ≤ w.heap.size) {i : Nat} {x : RunM} (hi : ms[i]? = some x) (hn1 : ms.length ≤ 1048576) (hn2 : vs.length ≤ 1599289640354) (hn3 : x.r.writes.length ≤ 1599289640354) (hn4 : x.r.reads.length ≤ 3000000000000) (l : Lk) :
    Calls Tryz.prog 67 #[.pointer (some ⟨p, 0, none⟩), .int .i64 (i : Int), .agg #[.string l.1, .string l.2]] w (SeesRes w0 w G p m V rows vs ms bad i (seesP vs x.r l)) := by
  obtain ⟨W, hW⟩ : ∃ W, w.alloc (.cells #[.string l.1, .string l.2] 42) = W := ⟨_, rfl⟩
  have HW := Lib.hid hW
  have hB : Below w.heap.size w W := by rw [← hW]; exact alloc_below10 _ _
  have q0 : W.heap[w.heap.size]? = some (.cells #[.string l.1, .string l.2] 42 (0, 0)) := by rw [← hW]; exact heap_alloc_new _ _
  have x0 : W.cell? ⟨w.heap.size, 0, none⟩ = some (.string l.1) := cell_of_row _ _ 0 _ _ _ q0
  have x1 : W.cell? ⟨w.heap.size, 1, none⟩ = some (.string l.2) := cell_of_row _ _ 1 _ _ _ q0
  have hWd := h.below hB
  obtain ⟨g, hg, hcell, hfro⟩ := hWd.place hi
  have y1 : W.cell? ⟨g, i * 8 + 1, none⟩ = some (.int .i64 x.r.snap) := hcell 1 _ rfl
  have y6 : W.cell? ⟨g, i * 8 + 6, none⟩ = some (.slice x.ra x.r.reads.length x.rc) := hcell 6 _ rfl
  have y7 : W.cell? ⟨g, i * 8 + 7, none⟩ = some (.slice x.wa x.r.writes.length x.wc) := hcell 7 _ rfl
  have f6 : W.frozen? ⟨g, i * 8 + 6, none⟩ = false := hfro _
  have p3 := hWd.cells.2.2.2.1
  have hil := (List.getElem?_eq_some_iff.1 hi).1
  have i1 : (i : Int) < (ms.length : Int) := by omega
  have i1' : (0 : Int) ≤ (i : Int) := by omega
  have CH := Lib.hid (fun W2 (g2 : Below W.heap.size W W2) => wHas10 (c := x.wc) ((hWd.below g2).runs x (List.mem_of_getElem? hi)).2.sb10 hn3 l)
  have CN := Lib.hid (fun W2 (g2 : Below W.heap.size W W2) => (hWd.below g2).newest hn2 l x.r.snap)
  have HD := Lib.hid hWd
  have H0 := Lib.hid h
  have HNE := Lib.hid (show some g ≠ (Value.slice x.ra x.r.reads.length x.rc).ownBlock from fun e => (hWd.far.1 g (by rw [hg]; simp [ownA])).2.2.2 x (List.mem_of_getElem? hi) (List.mem_append.2 (.inl (ownA_mem e.symm))))
  have HB := Lib.hid hB
  have HGL := Lib.hid hGlt
  have HI := Lib.hid hi
  have HG := Lib.hid hg
  have HN4 := Lib.hid hn4
  have HW0 := Lib.hid (show w0.heap.size ≤ W.heap.size from Nat.le_trans hw0 hB.size)
  rw [hg] at p3
  clear h hGlt hW hB q0 hWd hcell hfro hn1 hn2 hn3 hn4 hil hw0
  go_enter Tryz.func67, Tryz.ntmps67
  go_upto_region 1 with fail
  rw [HW.out]
  cases hh : hasLk x.r.writes l
  · have HS := Lib.hid (show seesP vs x.r l = { x.r with reads := x.r.reads ++ [(l, newestP vs l x.r.snap)] } by unfold seesP; rw [hh, if_neg (by simp)])
    rw [hh] at CH
    obtain ⟨N, hN⟩ : ∃ N, newestP vs l x.r.snap = N := ⟨_, rfl⟩
    rw [hN] at CN HS
    have S0 : W.cell? ⟨g, i * 8 + 7, none⟩ = some (.slice x.wa x.r.writes.length x.wc) ∧ W.cell? ⟨w.heap.size, 0, none⟩ = some (.string l.1) ∧ W.cell? ⟨w.heap.size, 1, none⟩ = some (.string l.2) := ⟨y7, x0, x1⟩
    have T0 : W.cell? ⟨g, i * 8 + 6, none⟩ = some (.slice x.ra x.r.reads.length x.rc) ∧ W.cell? ⟨g, i * 8 + 1, none⟩ = some (.int .i64 x.r.snap) ∧ W.cell? ⟨w.heap.size, 0, none⟩ = some (.string l.1) ∧ W.cell? ⟨w.heap.size, 1, none⟩ = some (.string l.2) ∧ W.frozen? ⟨g, i * 8 + 6, none⟩ = false := ⟨y6, y1, x0, x1, f6⟩
    have hgW : g < W.heap.size := World.block_lt_of_cell? W _ y6
    have SK := Lib.hid (fun (W' : World) (hb : Below W.heap.size W W') => (⟨keep_below S0.1 hb, keep_below S0.2.1 hb, keep_below S0.2.2 hb⟩ : W'.cell? ⟨g, i * 8 + 7, none⟩ = some (.slice x.wa x.r.writes.length x.wc) ∧ W'.cell? ⟨w.heap.size, 0, none⟩ = some (.string l.1) ∧ W'.cell? ⟨w.heap.size, 1, none⟩ = some (.string l.2)))
    have TK := Lib.hid (fun (W' : World) (hb : Below W.heap.size W W') => (⟨keep_below T0.1 hb, keep_below T0.2.1 hb, keep_below T0.2.2.1 hb, keep_below T0.2.2.2.1 hb, (World.frozen?_of_block (a := ⟨g, i * 8 + 6, none⟩) (hb.block g hgW)).trans T0.2.2.2.2⟩ : W'.cell? ⟨g, i * 8 + 6, none⟩ = some (.slice x.ra x.r.reads.length x.rc) ∧ W'.cell? ⟨g, i * 8 + 1, none⟩ = some (.int .i64 x.r.snap) ∧ W'.cell? ⟨w.heap.size, 0, none⟩ = some (.string l.1) ∧ W'.cell? ⟨w.heap.size, 1, none⟩ = some (.string l.2) ∧ W'.frozen? ⟨g, i * 8 + 6, none⟩ = false))
    clear hh hN x0 x1 y1 y6 y7 f6 hgW
    go_upto_region 2 with fail
    go_region_held3 (fun w' => w'.cell? ⟨g, i * 8 + 7, none⟩ = some (.slice x.wa x.r.writes.length x.wc) ∧ w'.cell? ⟨w.heap.size, 0, none⟩ = some (.string l.1) ∧ w'.cell? ⟨w.heap.size, 1, none⟩ = some (.string l.2))
      (first | exact S0 | exact SA)
      (first | (go_at_call 25; go_loud (refine (CH.out _ (Below.refl W.heap.size W).drew).mono ?_; rintro e w3 ⟨rfl, g3⟩; have G3 := Lib.hid ((Below.refl W.heap.size W).drew.trans g3); have SA := SK.out w3 G3.out; clear g3)))
    all_goals
      have T3 := TK.out w3 G3.out
      clear S0 SA T0 SK CH
      have GG3 := Lib.hid (G3.out.drew)
      go_upto_region 3 with fail
      obtain ⟨t0, t1, t2, t3, t4⟩ := T3
      go_region_law (first
        | (refine so_stepL seD_ok (by rfl) (.tmp 24) (.tmp 34) (by rfl) _ (by rfl) ((D4.out.runs x (List.mem_of_getElem? HI.out)).1.alloc _) w4.heap.size 1 (cellsF redC [(l, N)]) (by rfl) HSB.out (by have := HN4.out; show _ * 40 ≤ _; omega) (by have := HN4.out; simp only [maxLen]; omega) HSZ.out ?_; intro g5 c5 w5 o5 b5 l5; have O5 := Lib.hid o5; have B5 := Lib.hid b5; have L5 := Lib.hid l5; have v6 := grown_keep b5 r0 HNE.out; have v7 := (World.frozen?_of_block (a := ⟨g, i * 8 + 6, none⟩) (b5.block g (World.block_lt_of_cell? _ _ r0) HNE.out)).trans r4; clear o5 b5 l5)
        | (go_simp; go_at_call 68; go_loud (refine (CN.out _ GG3.out).mono ?_; rintro e w4 ⟨rfl, g4⟩; have G4 := Lib.hid (below_next GG3.out g4); obtain ⟨u0, u1, u2, u3, u4⟩ := TK.out w4 G4.out; obtain ⟨r0, r1, r2, r3, r4⟩ := TK.out _ (below_next G4.out (alloc_below10 w4 (.cells #[.string l.1, .string l.2, .int .i64 N] 135))); have D4 := Lib.hid (HD.out.below G4.out); have HSB := Lib.hid (sb_red w4 (l, N)); have HBX := Lib.hid (below_next HB.out (below_next G4.out (alloc_below10 w4 (.cells #[.string l.1, .string l.2, .int .i64 N] 135)))); have HSZ := Lib.hid (show w0.heap.size ≤ (w4.alloc (.cells #[.string l.1, .string l.2, .int .i64 N] 135)).heap.size from Nat.le_trans HW0.out (below_next G4.out (alloc_below10 w4 _)).size); clear g4)))
      all_goals
        go_wp2
        go_end0
        exact sees_end H0.out HBX.out HGL.out HI.out HG.out HS.out.symm O5.out B5.out L5.out
  · have HS := Lib.hid (show seesP vs x.r l = x.r by unfold seesP; rw [hh, if_pos rfl])
    rw [hh] at CH
    have S0 : W.cell? ⟨g, i * 8 + 7, none⟩ = some (.slice x.wa x.r.writes.length x.wc) ∧ W.cell? ⟨w.heap.size, 0, none⟩ = some (.string l.1) ∧ W.cell? ⟨w.heap.size, 1, none⟩ = some (.string l.2) := ⟨y7, x0, x1⟩
    have SK := Lib.hid (fun (W' : World) (hb : Below W.heap.size W W') => (⟨keep_below S0.1 hb, keep_below S0.2.1 hb, keep_below S0.2.2 hb⟩ : W'.cell? ⟨g, i * 8 + 7, none⟩ = some (.slice x.wa x.r.writes.length x.wc) ∧ W'.cell? ⟨w.heap.size, 0, none⟩ = some (.string l.1) ∧ W'.cell? ⟨w.heap.size, 1, none⟩ = some (.string l.2)))
    clear hh CN
    go_upto_region 2 with fail
    go_region_held3 (fun w' => w'.cell? ⟨g, i * 8 + 7, none⟩ = some (.slice x.wa x.r.writes.length x.wc) ∧ w'.cell? ⟨w.heap.size, 0, none⟩ = some (.string l.1) ∧ w'.cell? ⟨w.heap.size, 1, none⟩ = some (.string l.2))
      (first | exact S0 | exact SA)
      (first | (go_at_call 25; go_loud (refine (CH.out _ (Below.refl W.heap.size W).drew).mono ?_; rintro e w3 ⟨rfl, g3⟩; have G3 := Lib.hid ((Below.refl W.heap.size W).drew.trans g3); have SA := SK.out w3 G3.out; clear g3)))
    all_goals
      go_wp2
      go_end0
      have hset : ms.set i x = ms := by
        obtain ⟨hl, he⟩ := List.getElem?_eq_some_iff.1 HI.out
        rw [← he]; exact List.set_getElem_self hl
      exact ⟨⟨_, rfl⟩, x, HS.out.symm, by rw [hset]; exact HD.out.below G3.out, Out.of_below (below_next HB.out G3.out) _⟩
end Go.Proofs.YtknppiebncdjmaaGreat

namespace Go.Proofs.YtknppiebncdjmaaGreat
set_option maxRecDepth 100000
open Go.RowKit

section
variable {w0 w w' w1 : World} {G : Nat → Prop} {p m : Nat} {V V' : WdV} {rows : List Lk} {vs vs' : List Ver10} {ms ms' : List RunM} {bad : Bool}
theorem WdAt.next (h : WdAt w0 w G p m V rows vs ms bad) {k g : Nat} {v : Ver10} (hk : vs[k]? = some v) (hg : V.va = some ⟨g, 0, none⟩) (n : Int) :
    WdAt w0 (w.setCell ⟨g, k * 5 + 4, none⟩ (.int .i64 n)) G p m V rows (vs.set k { v with next := n }) ms bad := by
  have hgm : g ∈ ownA V.va := by rw [hg]; simp [ownA]
  obtain ⟨f1, f2, f3, f4⟩ := h.far.2 g hgm
  have keep : ∀ k', k' ≠ g → (w.setCell ⟨g, k * 5 + 4, none⟩ (.int .i64 n)).heap[k']? = w.heap[k']? := fun k' hne => Below.heap_setCell _ _ _ _ fun e => hne e
  have hlist : SO seV w0.heap.size (w.setCell ⟨g, k * 5 + 4, none⟩ (.int .i64 n)) (.slice V.va (vs.set k { v with next := n }).length V.vc) (vs.set k { v with next := n }).length (cellsF verC (vs.set k { v with next := n })) := by
    have h0 := h.vers
    rw [hg] at h0 ⊢
    rw [List.length_set, cellsF_set verC_len hk (k := 4) (u := .int .i64 n) (by omega) (by simp [verC])]
    exact h0.set10 _ rfl
  refine ⟨?_, h.rows_.keep10 fun k' e => keep k' fun e2 => f2 (e2 ▸ ownA_mem e), hlist, h.list.keep10 fun k' e => keep k' fun e2 => f3 (e2 ▸ ownA_mem e), fun y hy => ?_, h.sep, h.ap, h.pl⟩
  · rw [List.length_set]
    exact (keep p fun e => f1 e.symm).trans h.blk
  · refine ⟨(h.runs y hy).1.keep10 fun k' e => keep k' fun e2 => f4 y hy ?_, (h.runs y hy).2.keep10 fun k' e => keep k' fun e2 => f4 y hy ?_⟩
    · rw [← e2]; exact List.mem_append.2 (.inl (ownA_mem e))
    · rw [← e2]; exact List.mem_append.2 (.inr (ownA_mem e))
theorem sb_ver (X : World) (d : Ver10) : SB (X.alloc (.cells #[.string d.at_.1, .string d.at_.2, .int .i64 d.num, .int .i64 d.by_, .int .i64 d.next] 130)) (some ⟨X.heap.size, 0, none⟩) (seV.s * 1) (cellsF verC [d]) := by
  refine ⟨rfl, ?_, fun _ => ⟨X.heap.size, 0, rfl, fun j u hj => ?_⟩⟩
  · intro u hu
    simp [cellsF, verC] at hu
    rcases hu with rfl | rfl | rfl | rfl | rfl <;> rfl
  · rw [cell_of_row _ _ _ _ _ _ (heap_alloc_new X (.cells #[.string d.at_.1, .string d.at_.2, .int .i64 d.num, .int .i64 d.by_, .int .i64 d.next] 130))]
    simpa [cellsF, verC] using hj
theorem layV_len (vs : List Ver10) (num by_ : Int) (l : Lk) : (layV vs num by_ l).length = vs.length + 1 := by
  unfold layV
  split <;> simp
theorem layP_len (vs : List Ver10) (num by_ : Int) (ls : List Lk) : (layP vs num by_ ls).length = vs.length + ls.length := by
  unfold layP
  induction ls generalizing vs with
  | nil => rfl
  | cons l ls ih => rw [List.foldl_cons, ih, layV_len, List.length_cons]; omega
theorem layP_take {vs : List Ver10} {num by_ : Int} {ls : List Lk} {j : Nat} {l : Lk} (h : ls[j]? = some l) : layP vs num by_ (ls.take (j + 1)) = layV (layP vs num by_ (ls.take j)) num by_ l := by
  unfold layP
  rw [List.take_add_one, h, Option.toList_some, List.foldl_append]
  rfl
def ComRel (w0 w : World) (G : Nat → Prop) (p m : Nat) (V : WdV) (rows : List Lk) (vs : List Ver10) (ms : List RunM) (bad : Bool) (wr : World) : Prop :=
  ∃ va vc, WdAt w0 wr G p m { V with va := va, vc := vc } rows vs ms bad ∧ (∀ k ∈ ownA va, k ∈ p :: ownersW V ms ∨ w.heap.size ≤ k) ∧ Out (fun k => k ∈ p :: ownersW V ms) w wr
end
end Go.Proofs.YtknppiebncdjmaaGreat
