/- Layer 11: a net as it is built. -/
import Derived.Test.YtnpeankmmojebaaDoorSeNet
set_option linter.unusedVariables false
namespace Go.Proofs.YtnpeankmmojebaaDoor
set_option maxRecDepth 100000
set_option maxRecDepth 100000
open Go.RowKit

/-- A net on its way: block gb, its rows go and gi, the lists from block base on. -/
structure NetB (W : World) (gb go gi base n : Nat) (An : Option Addr) (cn : Nat) (ns : List Int) (vo vi : List Value) (LO LI : List (List Nat)) : Prop where
  row : W.heap[gb]? = some (.cells #[.slice An n cn, .slice (some ⟨go, 0, none⟩) n n, .slice (some ⟨gi, 0, none⟩) n n] 59 (0, 0))
  nb : SB W An n (numC ns)
  nl : ns.length = n
  nc : n ≤ cn ∧ cn ≤ maxLen
  nA : ∀ ad, An = some ad → ad.block < base ∧ ad.block ≠ go ∧ ad.block ≠ gi
  so : SO seS 0 W (.slice (some ⟨go, 0, none⟩) n n) n vo
  si : SO seS 0 W (.slice (some ⟨gi, 0, none⟩) n n) n vi
  fam : Fam base W (vo ++ vi) (LO ++ LI)
  lo : LO.length = n
  lt : gb < base ∧ go < base ∧ gi < base ∧ base ≤ W.heap.size
  ne : go ≠ gi ∧ go ≠ gb ∧ gi ≠ gb
section
variable {W W' : World} {gb go gi base n cn : Nat} {An : Option Addr} {ns : List Int} {vo vi : List Value} {LO LI : List (List Nat)}
theorem NetB.vol (h : NetB W gb go gi base n An cn ns vo vi LO LI) : vo.length = n := by have := h.so.len; simpa [seS] using this
theorem NetB.vil (h : NetB W gb go gi base n An cn ns vo vi LO LI) : vi.length = n := by have := h.si.len; simpa [seS] using this
theorem NetB.lil (h : NetB W gb go gi base n An cn ns vo vi LO LI) : LI.length = n := by
  have h1 := h.fam.len
  rw [List.length_append, List.length_append, h.vol, h.vil, h.lo] at h1
  omega
theorem NetB.out (h : NetB W gb go gi base n An cn ns vo vi LO LI) {F : Nat → Prop} (o : Out F W W') (hF : ∀ k, F k → base ≤ k ∧ ∀ (i : Nat) v, (vo ++ vi)[i]? = some v → v.ownBlock ≠ some k) : NetB W' gb go gi base n An cn ns vo vi LO LI where
  row := (o.block gb (Array.getElem?_eq_some_iff.1 h.row).1 fun e => by have := (hF _ e).1; have := h.lt.1; omega).trans h.row
  nb := ⟨h.nb.len, h.nb.one, fun h0 => by
    obtain ⟨g, q, e, hc⟩ := h.nb.cell h0
    exact ⟨g, q, e, fun j u hj => o.cell (hc j u hj) fun e2 => by have := (hF _ e2).1; have := (h.nA _ e).1; dsimp only at *; omega⟩⟩
  nl := h.nl
  nc := h.nc
  nA := h.nA
  so := h.so.out11 o fun k hk e => by
    have : go = k := by simpa [Value.ownBlock] using hk
    have := (hF _ e).1; have := h.lt.2.1; omega
  si := h.si.out11 o fun k hk e => by
    have : gi = k := by simpa [Value.ownBlock] using hk
    have := (hF _ e).1; have := h.lt.2.2.1; omega
  fam := h.fam.out o fun i v k hv hk e => (hF _ e).2 i v hv hk
  lo := h.lo
  lt := ⟨h.lt.1, h.lt.2.1, h.lt.2.2.1, Nat.le_trans h.lt.2.2.2 o.size⟩
  ne := h.ne
theorem NetB.below (h : NetB W gb go gi base n An cn ns vo vi LO LI) (hb : Below W.heap.size W W') : NetB W' gb go gi base n An cn ns vo vi LO LI :=
  h.out (F := fun _ => False) (Out.of_below hb _) fun _ e => e.elim
theorem NetB.cells (h : NetB W gb go gi base n An cn ns vo vi LO LI) : W.cell? ⟨gb, 0, none⟩ = some (.slice An n cn) ∧ W.cell? ⟨gb, 1, none⟩ = some (.slice (some ⟨go, 0, none⟩) n n) ∧ W.cell? ⟨gb, 2, none⟩ = some (.slice (some ⟨gi, 0, none⟩) n n) :=
  ⟨cell_of_row _ _ 0 _ _ _ h.row, cell_of_row _ _ 1 _ _ _ h.row, cell_of_row _ _ 2 _ _ _ h.row⟩
theorem SO.cell1 {E : SEl} {base n c g : Nat} {w : World} {vs : List Value} (h : SO E base w (.slice (some ⟨g, 0, none⟩) n c) n vs) (j : Nat) : w.cell? ⟨g, j, none⟩ = vs[j]? ∨ vs.length ≤ j := by
  rcases Nat.lt_or_ge j vs.length with h1 | h1
  · left
    have := h.own.cellAt j (by rw [← h.own.1]; exact h1)
    exact this
  · exact .inr h1
theorem NetB.outC (h : NetB W gb go gi base n An cn ns vo vi LO LI) {a : Nat} {v : Value} (hv : vo[a]? = some v) : W.cell? ⟨go, a, none⟩ = some v := by
  rcases h.so.cell1 a with k | k
  · exact k.trans hv
  · have := (List.getElem?_eq_some_iff.1 hv).1; omega
theorem NetB.inC (h : NetB W gb go gi base n An cn ns vo vi LO LI) {a : Nat} {v : Value} (hv : vi[a]? = some v) : W.cell? ⟨gi, a, none⟩ = some v := by
  rcases h.si.cell1 a with k | k
  · exact k.trans hv
  · have := (List.getElem?_eq_some_iff.1 hv).1; omega
theorem NetB.outL (h : NetB W gb go gi base n An cn ns vo vi LO LI) {a : Nat} {v : Value} {L : List Nat} (hv : vo[a]? = some v) (hL : LO[a]? = some L) : SO seI base W v L.length (numN L) :=
  h.fam.own a v L (by rw [List.getElem?_append_left (List.getElem?_eq_some_iff.1 hv).1]; exact hv) (by rw [List.getElem?_append_left (List.getElem?_eq_some_iff.1 hL).1]; exact hL)
theorem NetB.inL (h : NetB W gb go gi base n An cn ns vo vi LO LI) {a : Nat} {v : Value} {L : List Nat} (hv : vi[a]? = some v) (hL : LI[a]? = some L) : SO seI base W v L.length (numN L) :=
  h.fam.own (n + a) v L (by rw [List.getElem?_append_right (by rw [h.vol]; omega), h.vol, Nat.add_sub_cancel_left]; exact hv) (by rw [List.getElem?_append_right (by rw [h.lo]; omega), h.lo, Nat.add_sub_cancel_left]; exact hL)
/-- A row's cell is set. -/
theorem SO.set1 {E : SEl} {b0 n c g : Nat} {w : World} {vs : List Value} (h : SO E b0 w (.slice (some ⟨g, 0, none⟩) n c) n vs) (a : Nat) (u : Value) (hu : u.oneCell' = true) : SO E b0 (w.setCell ⟨g, a, none⟩ u) (.slice (some ⟨g, 0, none⟩) n c) n (vs.set a u) :=
  ⟨(h.own.stored a u).1, by rw [List.length_set]; exact h.len, fun x hx => by
    rcases List.mem_or_eq_of_mem_set hx with k | k
    · exact h.one x k
    · rw [k]; exact hu⟩
/-- One more in the list of outs of a rank: behind the append, and the store into the row. -/
theorem NetB.addO (h : NetB W gb go gi base n An cn ns vo vi LO LI) {a x : Nat} {v : Value} {L : List Nat} (hv : vo[a]? = some v) (hL : LO[a]? = some L) {g cap : Nat} (hs : SO seI base W' (.slice (some ⟨g, 0, none⟩) (L.length + 1) cap) (L.length + 1) (numN L ++ [.int .i64 (x : Nat)])) (o : Out (fun k => v.ownBlock = some k) W W') (hg : v.ownBlock = some g ∨ W.heap.size ≤ g) :
    NetB (W'.setCell ⟨go, a, none⟩ (.slice (some ⟨g, 0, none⟩) (L.length + 1) cap)) gb go gi base n An cn ns (vo.set a (.slice (some ⟨g, 0, none⟩) (L.length + 1) cap)) vi (LO.set a (L ++ [x])) LI := by
  have ha : a < n := by have := (List.getElem?_eq_some_iff.1 hv).1; rw [h.vol] at this; exact this
  have hvv : (vo ++ vi)[a]? = some v := by rw [List.getElem?_append_left (by rw [h.vol]; exact ha)]; exact hv
  have hLL : (LO ++ LI)[a]? = some L := by rw [List.getElem?_append_left (by rw [h.lo]; exact ha)]; exact hL
  have hF := h.fam.grow hvv hLL hs o hg
  rw [List.set_append_left _ _ (by rw [h.vol]; exact ha), List.set_append_left _ _ (by rw [h.lo]; exact ha)] at hF
  have hgb : base ≤ g := (hs.own.lt g rfl).1
  have hob : ∀ k, v.ownBlock = some k → base ≤ k := fun k hk => (h.fam.lt hvv hk).1
  have o2 : Out (fun k => k = go) W' (W'.setCell ⟨go, a, none⟩ (.slice (some ⟨g, 0, none⟩) (L.length + 1) cap)) := Out.setCell (F := fun k => k = go) (Out.refl _ W') (p := ⟨go, a, none⟩) (.inl rfl) _
  have o3 : Out (fun k => v.ownBlock = some k ∨ k = go) W (W'.setCell ⟨go, a, none⟩ (.slice (some ⟨g, 0, none⟩) (L.length + 1) cap)) := (o.mono fun i _ e => .inl e).then (o2.mono fun i _ e => .inr e)
  have l1 := h.lt
  have hso : SO seS 0 W' (.slice (some ⟨go, 0, none⟩) n n) n vo := h.so.out11 o fun k hk e => by
    have : go = k := by simpa [Value.ownBlock] using hk
    have := hob k e; omega
  refine ⟨?_, ⟨h.nb.len, h.nb.one, fun h0 => ?_⟩, h.nl, h.nc, h.nA, hso.set1 a _ rfl, ?_, hF.out o2 ?_, by rw [List.length_set]; exact h.lo, ⟨l1.1, l1.2.1, l1.2.2.1, Nat.le_trans l1.2.2.2 o3.size⟩, h.ne⟩
  · exact (o3.block gb (Array.getElem?_eq_some_iff.1 h.row).1 fun e => by
      rcases e with e | e
      · have := hob _ e; omega
      · exact h.ne.2.1 e.symm).trans h.row
  · obtain ⟨g', q, e, hc⟩ := h.nb.cell h0
    have hA := h.nA _ e
    dsimp only at hA
    exact ⟨g', q, e, fun j u hj => o3.cell (hc j u hj) fun e2 => by
      dsimp only at e2
      rcases e2 with e2 | e2
      · have := hob _ e2; omega
      · exact hA.2.1 e2⟩
  · exact h.si.out11 o3 fun k hk e => by
      have hk' : gi = k := by simpa [Value.ownBlock] using hk
      rcases e with e | e
      · have := hob _ e; omega
      · exact h.ne.1 (by omega)
  · intro i u k hu hk e
    have hb := (hF.lt hu hk).1
    omega
theorem NetB.addI (h : NetB W gb go gi base n An cn ns vo vi LO LI) {a x : Nat} {v : Value} {L : List Nat} (hv : vi[a]? = some v) (hL : LI[a]? = some L) {g cap : Nat} (hs : SO seI base W' (.slice (some ⟨g, 0, none⟩) (L.length + 1) cap) (L.length + 1) (numN L ++ [.int .i64 (x : Nat)])) (o : Out (fun k => v.ownBlock = some k) W W') (hg : v.ownBlock = some g ∨ W.heap.size ≤ g) :
    NetB (W'.setCell ⟨gi, a, none⟩ (.slice (some ⟨g, 0, none⟩) (L.length + 1) cap)) gb go gi base n An cn ns vo (vi.set a (.slice (some ⟨g, 0, none⟩) (L.length + 1) cap)) LO (LI.set a (L ++ [x])) := by
  have hvv : (vo ++ vi)[n + a]? = some v := by rw [List.getElem?_append_right (by rw [h.vol]; omega), h.vol, Nat.add_sub_cancel_left]; exact hv
  have hLL : (LO ++ LI)[n + a]? = some L := by rw [List.getElem?_append_right (by rw [h.lo]; omega), h.lo, Nat.add_sub_cancel_left]; exact hL
  have hF := h.fam.grow hvv hLL hs o hg
  rw [List.set_append_right _ _ (by rw [h.vol]; omega), List.set_append_right _ _ (by rw [h.lo]; omega), h.vol, h.lo, Nat.add_sub_cancel_left] at hF
  have hgb : base ≤ g := (hs.own.lt g rfl).1
  have hob : ∀ k, v.ownBlock = some k → base ≤ k := fun k hk => (h.fam.lt hvv hk).1
  have o2 : Out (fun k => k = gi) W' (W'.setCell ⟨gi, a, none⟩ (.slice (some ⟨g, 0, none⟩) (L.length + 1) cap)) := Out.setCell (F := fun k => k = gi) (Out.refl _ W') (p := ⟨gi, a, none⟩) (.inl rfl) _
  have o3 : Out (fun k => v.ownBlock = some k ∨ k = gi) W (W'.setCell ⟨gi, a, none⟩ (.slice (some ⟨g, 0, none⟩) (L.length + 1) cap)) := (o.mono fun i _ e => .inl e).then (o2.mono fun i _ e => .inr e)
  have l1 := h.lt
  have hsi : SO seS 0 W' (.slice (some ⟨gi, 0, none⟩) n n) n vi := h.si.out11 o fun k hk e => by
    have : gi = k := by simpa [Value.ownBlock] using hk
    have := hob k e; omega
  refine ⟨?_, ⟨h.nb.len, h.nb.one, fun h0 => ?_⟩, h.nl, h.nc, h.nA, ?_, hsi.set1 a _ rfl, hF.out o2 ?_, h.lo, ⟨l1.1, l1.2.1, l1.2.2.1, Nat.le_trans l1.2.2.2 o3.size⟩, h.ne⟩
  · exact (o3.block gb (Array.getElem?_eq_some_iff.1 h.row).1 fun e => by
      rcases e with e | e
      · have := hob _ e; omega
      · exact h.ne.2.2 e.symm).trans h.row
  · obtain ⟨g', q, e, hc⟩ := h.nb.cell h0
    have hA := h.nA _ e
    dsimp only at hA
    exact ⟨g', q, e, fun j u hj => o3.cell (hc j u hj) fun e2 => by
      dsimp only at e2
      rcases e2 with e2 | e2
      · have := hob _ e2; omega
      · exact hA.2.2 e2⟩
  · exact h.so.out11 o3 fun k hk e => by
      have hk' : go = k := by simpa [Value.ownBlock] using hk
      rcases e with e | e
      · have := hob _ e; omega
      · exact h.ne.1 (by omega)
  · intro i u k hu hk e
    have hb := (hF.lt hu hk).1
    omega
/-- What an append to a list of outs and the store of it leave. -/
theorem NetB.lawO (h : NetB W gb go gi base n An cn ns vo vi LO LI) {a x : Nat} {v : Value} {L : List Nat} (hv : vo[a]? = some v) (hL : LO[a]? = some L) {g cap : Nat} (hs : SO seI base W' (.slice (some ⟨g, 0, none⟩) (L.length + 1) cap) (L.length + 1) (numN L ++ [.int .i64 (x : Nat)])) (hg : W.grownBy W' v.ownBlock) (hl : v.ownBlock = some g ∨ g = W.heap.size) :
    W'.cell? ⟨gb, 1, none⟩ = some (.slice (some ⟨go, 0, none⟩) n n) ∧ W'.cell? ⟨go, a, none⟩ = some v ∧ W'.frozen? ⟨go, a, none⟩ = false ∧
    NetB (W'.setCell ⟨go, a, none⟩ (.slice (some ⟨g, 0, none⟩) (L.length + 1) cap)) gb go gi base n An cn ns (vo.set a (.slice (some ⟨g, 0, none⟩) (L.length + 1) cap)) vi (LO.set a (L ++ [x])) LI ∧
    Out (fun k => k = go ∨ k = gi ∨ base ≤ k) W (W'.setCell ⟨go, a, none⟩ (.slice (some ⟨g, 0, none⟩) (L.length + 1) cap)) := by
  have o : Out (fun k => v.ownBlock = some k) W W' := (Out.refl _ _).grown hg fun k e => .inl e
  have hob : ∀ k, v.ownBlock = some k → base ≤ k := fun k hk => ((h.outL hv hL).own.lt k hk).1
  have l1 := h.lt
  have hrow : SO seS 0 W' (.slice (some ⟨go, 0, none⟩) n n) n vo := h.so.out11 o fun k hk e => by
    have : go = k := by simpa [Value.ownBlock] using hk
    have := hob k e; omega
  refine ⟨o.cell h.cells.2.1 fun e => ?_, o.cell (h.outC hv) fun e => ?_, hrow.own.frozenAt a, h.addO hv hL hs o (hl.imp id fun e => by omega), (o.mono fun i _ e => .inr (.inr (hob i e))).then (Out.setCell (F := fun k => k = go ∨ k = gi ∨ base ≤ k) (Out.refl _ W') (p := ⟨go, a, none⟩) (.inl (.inl rfl)) _)⟩
  · have := hob _ e; dsimp only at this; omega
  · have := hob _ e; dsimp only at this; omega
/-- What an append to a list of ins and the store of it leave. -/
theorem NetB.lawI (h : NetB W gb go gi base n An cn ns vo vi LO LI) {a x : Nat} {v : Value} {L : List Nat} (hv : vi[a]? = some v) (hL : LI[a]? = some L) {g cap : Nat} (hs : SO seI base W' (.slice (some ⟨g, 0, none⟩) (L.length + 1) cap) (L.length + 1) (numN L ++ [.int .i64 (x : Nat)])) (hg : W.grownBy W' v.ownBlock) (hl : v.ownBlock = some g ∨ g = W.heap.size) :
    W'.cell? ⟨gb, 2, none⟩ = some (.slice (some ⟨gi, 0, none⟩) n n) ∧ W'.cell? ⟨gi, a, none⟩ = some v ∧ W'.frozen? ⟨gi, a, none⟩ = false ∧
    NetB (W'.setCell ⟨gi, a, none⟩ (.slice (some ⟨g, 0, none⟩) (L.length + 1) cap)) gb go gi base n An cn ns vo (vi.set a (.slice (some ⟨g, 0, none⟩) (L.length + 1) cap)) LO (LI.set a (L ++ [x])) ∧
    Out (fun k => k = go ∨ k = gi ∨ base ≤ k) W (W'.setCell ⟨gi, a, none⟩ (.slice (some ⟨g, 0, none⟩) (L.length + 1) cap)) := by
  have o : Out (fun k => v.ownBlock = some k) W W' := (Out.refl _ _).grown hg fun k e => .inl e
  have hob : ∀ k, v.ownBlock = some k → base ≤ k := fun k hk => ((h.inL hv hL).own.lt k hk).1
  have l1 := h.lt
  have hrow : SO seS 0 W' (.slice (some ⟨gi, 0, none⟩) n n) n vi := h.si.out11 o fun k hk e => by
    have : gi = k := by simpa [Value.ownBlock] using hk
    have := hob k e; omega
  refine ⟨o.cell h.cells.2.2 fun e => ?_, o.cell (h.inC hv) fun e => ?_, hrow.own.frozenAt a, h.addI hv hL hs o (hl.imp id fun e => by omega), (o.mono fun i _ e => .inr (.inr (hob i e))).then (Out.setCell (F := fun k => k = go ∨ k = gi ∨ base ≤ k) (Out.refl _ W') (p := ⟨gi, a, none⟩) (.inl (.inr (.inl rfl))) _)⟩
  · have := hob _ e; dsimp only at this; omega
  · have := hob _ e; dsimp only at this; omega
end
/-- The ranks of the numbers that a dependency leads from and to. -/
def edgeP (ns : List Int) (d : Dp) : Nat × Nat := (ns.idxOf d.fr, ns.idxOf d.to)
def edgesP (ns : List Int) (g : List Dp) : Eg := g.map (edgeP ns)
def LOf (E : Eg) (n : Nat) : List (List Nat) := (List.range n).map (outsP E)
def LIf (E : Eg) (n : Nat) : List (List Nat) := (List.range n).map (insP E)
theorem LOf_next (E : Eg) (n : Nat) (e : Nat × Nat) : LOf (E ++ [e]) n = (LOf E n).set e.1 (outsP E e.1 ++ [e.2]) := by
  apply List.ext_getElem?
  intro i
  unfold LOf
  rw [List.getElem?_set]
  simp only [List.getElem?_map, List.length_map, List.length_range]
  by_cases h : e.1 = i
  · subst h
    by_cases hi : e.1 < n
    · rw [if_pos rfl, if_pos hi, List.getElem?_range hi]
      simp [outsP]
    · rw [if_pos rfl, if_neg hi, List.getElem?_eq_none (by simpa using hi)]; rfl
  · rw [if_neg h]
    cases hr : (List.range n)[i]? with
    | none => rfl
    | some j =>
      have : j = i := by
        have := List.getElem?_eq_some_iff.1 hr
        obtain ⟨h1, h2⟩ := this
        simpa using h2.symm
      subst this
      simp [outsP, h]
theorem LIf_next (E : Eg) (n : Nat) (e : Nat × Nat) : LIf (E ++ [e]) n = (LIf E n).set e.2 (insP E e.2 ++ [e.1]) := by
  apply List.ext_getElem?
  intro i
  unfold LIf
  rw [List.getElem?_set]
  simp only [List.getElem?_map, List.length_map, List.length_range]
  by_cases h : e.2 = i
  · subst h
    by_cases hi : e.2 < n
    · rw [if_pos rfl, if_pos hi, List.getElem?_range hi]
      simp [insP]
    · rw [if_pos rfl, if_neg hi, List.getElem?_eq_none (by simpa using hi)]; rfl
  · rw [if_neg h]
    cases hr : (List.range n)[i]? with
    | none => rfl
    | some j =>
      have : j = i := by
        have := List.getElem?_eq_some_iff.1 hr
        obtain ⟨h1, h2⟩ := this
        simpa using h2.symm
      subst this
      simp [insP, h]
theorem outsP_len (E : Eg) (i : Nat) : (outsP E i).length ≤ E.length := by unfold outsP; rw [List.length_map]; exact List.length_filter_le _ _
theorem insP_len (E : Eg) (i : Nat) : (insP E i).length ≤ E.length := by unfold insP; rw [List.length_map]; exact List.length_filter_le _ _
theorem LOf_at {E : Eg} {n i : Nat} (h : i < n) : (LOf E n)[i]? = some (outsP E i) := by unfold LOf; rw [List.getElem?_map, List.getElem?_range h]; rfl
theorem LIf_at {E : Eg} {n i : Nat} (h : i < n) : (LIf E n)[i]? = some (insP E i) := by unfold LIf; rw [List.getElem?_map, List.getElem?_range h]; rfl
theorem edges_next {ns : List Int} {g : List Dp} {j : Nat} {d : Dp} (h : g[j]? = some d) : edgesP ns (g.take (j + 1)) = edgesP ns (g.take j) ++ [edgeP ns d] := by
  unfold edgesP
  rw [List.take_add_one, h, Option.toList_some, List.map_append]
  rfl
/-- A net: its numbers, and the edges between their ranks. -/
def NetAt (W : World) (gb n : Nat) (ns : List Int) (E : Eg) : Prop := ∃ go gi base An cn vo vi, NetB W gb go gi base n An cn ns vo vi (LOf E n) (LIf E n)
theorem NetAt.below {W W' : World} {gb n : Nat} {ns : List Int} {E : Eg} (h : NetAt W gb n ns E) (hb : Below W.heap.size W W') : NetAt W' gb n ns E := by
  obtain ⟨go, gi, base, An, cn, vo, vi, k⟩ := h
  exact ⟨go, gi, base, An, cn, vo, vi, k.below hb⟩
end Go.Proofs.YtnpeankmmojebaaDoor
