import Derived.Test.YtbmgeobmmpaghaaGreatDoorSeCol
import Derived.Test.YtbmgeobmmpaghaaGreatDoorSeAC
import Derived.Deep.DeepCutAuto
/- Layer 11: a net in memory: its numbers, and for each rank the ranks to which and from which dependencies lead. -/
set_option linter.unusedVariables false
namespace Go.Proofs.YtbmgeobmmpaghaaGreatDoor
set_option maxRecDepth 100000
open Go.RowKit

def numN (L : List Nat) : List Value := numC (L.map fun (k : Nat) => (k : Int))
theorem numN_len (L : List Nat) : (numN L).length = L.length := by simp [numN, numC]
theorem numN_app (L M : List Nat) : numN (L ++ M) = numN L ++ numN M := by simp [numN, numC]
theorem numN_one (L : List Nat) : ∀ u ∈ numN L, u.oneCell' = true := numC_one _
theorem numN_at {L : List Nat} {j x : Nat} (h : L[j]? = some x) : (numN L)[j]? = some (.int .i64 (x : Nat)) := numC_at (by simp [h])
def seS : SEl := ⟨46, 22, .slice none 0 0, 1, 24⟩
theorem seS_ok : seS.Ok := ⟨by kernel_rfl, by kernel_rfl, by kernel_rfl, by decide, by decide, by decide⟩
/-- A block's cell is set. -/
theorem row_set11 {w : World} {b i : Nat} {cs : Array Value} {t : TypeId} (h : w.heap[b]? = some (.cells cs t (0, 0))) (u : Value) : (w.setCell ⟨b, i, none⟩ u).heap[b]? = some (.cells (cs.setIfInBounds i u) t (0, 0)) := by
  simp [World.setCell, Array.getElem?_modify, h]
/-- make of so many elements of one cell. -/
theorem so_make {E : SEl} (hE : E.Ok) (h1 : E.s = 1) (hz : E.z.cells = #[E.z]) (ho : E.z.oneCell' = true) (w : World) (n : Nat) (hn : n ≤ 1000000) (base : Nat) (hb : base ≤ w.heap.size) :
    ∃ w', (Instr.makeSlice E.t (.int .i64 (n : Int)) (.int .i64 (n : Int))).run Tryz.prog w = .ok (.slice (some ⟨w.heap.size, 0, none⟩) n n) w' ∧ SO E base w' (.slice (some ⟨w.heap.size, 0, none⟩) n n) n (List.replicate n E.z) ∧ Below w.heap.size w w' ∧ w.heap.size < w'.heap.size := by
  obtain ⟨i0, hi, hz0, hz1, hz2⟩ := info_parts hE.info
  have hb1 := hE.b1
  obtain ⟨w', hr, how, hg⟩ := run_makeSlice_full (P := Tryz.prog) w base E.t E.e i0 E.z E.s hE.und hi hz0 hz1 .i64 .i64 n (by rw [h1]; omega) (by rw [hz2]; exact Nat.le_trans (Nat.mul_le_mul hb1 hn) (by omega)) (by simp only [maxLen]; omega) hb
  have e : (madeCells E.z.cells (n * E.s)).toList = List.replicate n E.z := by
    rw [hz, h1, Nat.mul_one]
    unfold madeCells
    apply List.ext_getElem
    · simp
    · intro i k1 k2
      simp [Nat.mod_one]
  rw [e] at how
  refine ⟨w', hr, ⟨how, by rw [List.length_replicate, h1, Nat.one_mul], fun u hu => by rw [List.eq_of_mem_replicate hu]; exact ho⟩, (Below.refl _ w).grown hg (Nat.le_refl _) (fun k e => by cases e), (how.lt _ rfl).2⟩
/-- Lists of ranks, each in a row of its own, no two in one. -/
structure Fam (base : Nat) (W : World) (vv : List Value) (LL : List (List Nat)) : Prop where
  len : LL.length = vv.length
  own : ∀ (i : Nat) v L, vv[i]? = some v → LL[i]? = some L → SO seI base W v L.length (numN L)
  ne : ∀ (i j : Nat) v u k, vv[i]? = some v → vv[j]? = some u → v.ownBlock = some k → u.ownBlock = some k → i = j
theorem Fam.nil (base : Nat) (W : World) (n : Nat) : Fam base W (List.replicate n (.slice none 0 0)) (List.replicate n []) where
  len := by simp
  own i v L hv hL := by
    rw [List.getElem?_replicate] at hv hL
    split at hv
    · rename_i h
      rw [if_pos h] at hL
      cases hv; cases hL
      exact SO.nil _ _ _
    · cases hv
  ne i j v u k hv hu h1 h2 := by
    rw [List.getElem?_replicate] at hv
    split at hv
    · cases hv; cases h1
    · cases hv
section
variable {base : Nat} {W W' : World} {vv : List Value} {LL : List (List Nat)}
theorem SO.out11 {E : SEl} {n : Nat} {v : Value} {vs : List Value} {F : Nat → Prop} (h : SO E base W v n vs) (o : Out F W W') (hF : ∀ k, v.ownBlock = some k → ¬ F k) : SO E base W' v n vs :=
  ⟨own_stays h.own fun k hk => o.block k (h.own.lt k hk).2 (hF k hk), h.len, h.one⟩
theorem Fam.out (h : Fam base W vv LL) {F : Nat → Prop} (o : Out F W W') (hF : ∀ (i : Nat) v k, vv[i]? = some v → v.ownBlock = some k → ¬ F k) : Fam base W' vv LL :=
  ⟨h.len, fun i v L hv hL => (h.own i v L hv hL).out11 o fun k hk => hF i v k hv hk, h.ne⟩
theorem Fam.below (h : Fam base W vv LL) (hb : Below W.heap.size W W') : Fam base W' vv LL :=
  ⟨h.len, fun i v L hv hL => (h.own i v L hv hL).below hb, h.ne⟩
theorem Fam.lt (h : Fam base W vv LL) {i : Nat} {v : Value} {k : Nat} (hv : vv[i]? = some v) (hk : v.ownBlock = some k) : base ≤ k ∧ k < W.heap.size := by
  obtain ⟨L, hL⟩ : ∃ L, LL[i]? = some L := ⟨_, List.getElem?_eq_getElem (by rw [h.len]; exact (List.getElem?_eq_some_iff.1 hv).1)⟩
  exact (h.own i v L hv hL).own.lt k hk
/-- One list has grown. -/
theorem Fam.grow (h : Fam base W vv LL) {i : Nat} {v : Value} {L : List Nat} (hv : vv[i]? = some v) (hL : LL[i]? = some L) {g cap x : Nat} (hs : SO seI base W' (.slice (some ⟨g, 0, none⟩) (L.length + 1) cap) (L.length + 1) (numN L ++ [.int .i64 (x : Nat)])) (o : Out (fun k => v.ownBlock = some k) W W') (hg : v.ownBlock = some g ∨ W.heap.size ≤ g) :
    Fam base W' (vv.set i (.slice (some ⟨g, 0, none⟩) (L.length + 1) cap)) (LL.set i (L ++ [x])) where
  len := by simp [h.len]
  own j u M hu hM := by
    rw [List.getElem?_set] at hu hM
    by_cases e : i = j
    · subst e
      rw [if_pos rfl, if_pos (List.getElem?_eq_some_iff.1 hv).1] at hu
      rw [if_pos rfl, if_pos (List.getElem?_eq_some_iff.1 hL).1] at hM
      cases hu; cases hM
      rw [numN_app, List.length_append]
      exact hs
    · rw [if_neg e] at hu hM
      exact (h.own j u M hu hM).out11 o fun k hk h2 => e (h.ne i j v u k hv hu h2 hk)
  ne a b u t k hu ht h1 h2 := by
    rw [List.getElem?_set] at hu ht
    by_cases e : i = a
    · subst e
      rw [if_pos rfl, if_pos (List.getElem?_eq_some_iff.1 hv).1] at hu
      cases hu
      have hgk : g = k := by simpa [Value.ownBlock] using h1
      subst hgk
      by_cases e2 : i = b
      · exact e2
      · rw [if_neg e2] at ht
        rcases hg with hg | hg
        · exact absurd (h.ne i b v t g hv ht hg h2) e2
        · have := (h.lt ht h2).2; omega
    · rw [if_neg e] at hu
      by_cases e2 : i = b
      · subst e2
        rw [if_pos rfl, if_pos (List.getElem?_eq_some_iff.1 hv).1] at ht
        cases ht
        have hgk : g = k := by simpa [Value.ownBlock] using h2
        subst hgk
        rcases hg with hg | hg
        · exact absurd (h.ne i a v u g hv hu hg h1) e
        · have := (h.lt hu h1).2; omega
      · rw [if_neg e2] at ht
        exact h.ne a b u t k hu ht h1 h2
end
end Go.Proofs.YtbmgeobmmpaghaaGreatDoor

/- Layer 11: a net as it is built. -/
namespace Go.Proofs.YtbmgeobmmpaghaaGreatDoor
set_option maxRecDepth 100000
open Go.RowKit

/-- A net on its way: block gb, its rows go and gi, the lists from block base on. -/
structure NetB (W : World) (gb go gi base n : Nat) (An : Option Addr) (cn : Nat) (ns : List Int) (vo vi : List Value) (LO LI : List (List Nat)) : Prop where
  row : W.heap[gb]? = some (.cells #[.slice An n cn, .slice (some ⟨go, 0, none⟩) n n, .slice (some ⟨gi, 0, none⟩) n n] 96 (0, 0))
  nb : SB W An n (numC ns)
  nl : ns.length = n
  nc : n ≤ cn ∧ cn ≤ maxLen
  nA : ∀ ad, An = some ad → ad.block < base ∧ ad.block ≠ go ∧ ad.block ≠ gi
  so : SO seS 0 W (.slice (some ⟨go, 0, none⟩) n n) n vo
  si : SO seS 0 W (.slice (some ⟨gi, 0, none⟩) n n) n vi
  fam : Fam base W (vo ++ vi) (LO ++ LI)
  lo : LO.length = n
  lt : gb < base ∧ go < base ∧ gi < base ∧ base ≤ W.heap.size
  ne : go ≠ gi ∧ go ≠ gb ∧ gi ≠ gb
section
variable {W W' : World} {gb go gi base n cn : Nat} {An : Option Addr} {ns : List Int} {vo vi : List Value} {LO LI : List (List Nat)}
theorem NetB.vol (h : NetB W gb go gi base n An cn ns vo vi LO LI) : vo.length = n := by have := h.so.len; simpa [seS] using this
theorem NetB.vil (h : NetB W gb go gi base n An cn ns vo vi LO LI) : vi.length = n := by have := h.si.len; simpa [seS] using this
theorem NetB.lil (h : NetB W gb go gi base n An cn ns vo vi LO LI) : LI.length = n := by
  have h1 := h.fam.len
  rw [List.length_append, List.length_append, h.vol, h.vil, h.lo] at h1
  omega
theorem NetB.out (h : NetB W gb go gi base n An cn ns vo vi LO LI) {F : Nat → Prop} (o : Out F W W') (hF : ∀ k, F k → base ≤ k ∧ ∀ (i : Nat) v, (vo ++ vi)[i]? = some v → v.ownBlock ≠ some k) : NetB W' gb go gi base n An cn ns vo vi LO LI where
  row := (o.block gb (Array.getElem?_eq_some_iff.1 h.row).1 fun e => by have := (hF _ e).1; have := h.lt.1; omega).trans h.row
  nb := ⟨h.nb.len, h.nb.one, fun h0 => by
    obtain ⟨g, q, e, hc⟩ := h.nb.cell h0
    exact ⟨g, q, e, fun j u hj => o.cell (hc j u hj) fun e2 => by have := (hF _ e2).1; have := (h.nA _ e).1; dsimp only at *; omega⟩⟩
  nl := h.nl
  nc := h.nc
  nA := h.nA
  so := h.so.out11 o fun k hk e => by
    have : go = k := by simpa [Value.ownBlock] using hk
    have := (hF _ e).1; have := h.lt.2.1; omega
  si := h.si.out11 o fun k hk e => by
    have : gi = k := by simpa [Value.ownBlock] using hk
    have := (hF _ e).1; have := h.lt.2.2.1; omega
  fam := h.fam.out o fun i v k hv hk e => (hF _ e).2 i v hv hk
  lo := h.lo
  lt := ⟨h.lt.1, h.lt.2.1, h.lt.2.2.1, Nat.le_trans h.lt.2.2.2 o.size⟩
  ne := h.ne
theorem NetB.below (h : NetB W gb go gi base n An cn ns vo vi LO LI) (hb : Below W.heap.size W W') : NetB W' gb go gi base n An cn ns vo vi LO LI :=
  h.out (F := fun _ => False) (Out.of_below hb _) fun _ e => e.elim
theorem NetB.cells (h : NetB W gb go gi base n An cn ns vo vi LO LI) : W.cell? ⟨gb, 0, none⟩ = some (.slice An n cn) ∧ W.cell? ⟨gb, 1, none⟩ = some (.slice (some ⟨go, 0, none⟩) n n) ∧ W.cell? ⟨gb, 2, none⟩ = some (.slice (some ⟨gi, 0, none⟩) n n) :=
  ⟨cell_of_row _ _ 0 _ _ _ h.row, cell_of_row _ _ 1 _ _ _ h.row, cell_of_row _ _ 2 _ _ _ h.row⟩
theorem SO.cell1 {E : SEl} {base n c g : Nat} {w : World} {vs : List Value} (h : SO E base w (.slice (some ⟨g, 0, none⟩) n c) n vs) (j : Nat) : w.cell? ⟨g, j, none⟩ = vs[j]? ∨ vs.length ≤ j := by
  rcases Nat.lt_or_ge j vs.length with h1 | h1
  · left
    have := h.own.cellAt j (by rw [← h.own.1]; exact h1)
    exact this
  · exact .inr h1
theorem NetB.outC (h : NetB W gb go gi base n An cn ns vo vi LO LI) {a : Nat} {v : Value} (hv : vo[a]? = some v) : W.cell? ⟨go, a, none⟩ = some v := by
  rcases h.so.cell1 a with k | k
  · exact k.trans hv
  · have := (List.getElem?_eq_some_iff.1 hv).1; omega
theorem NetB.inC (h : NetB W gb go gi base n An cn ns vo vi LO LI) {a : Nat} {v : Value} (hv : vi[a]? = some v) : W.cell? ⟨gi, a, none⟩ = some v := by
  rcases h.si.cell1 a with k | k
  · exact k.trans hv
  · have := (List.getElem?_eq_some_iff.1 hv).1; omega
theorem NetB.outL (h : NetB W gb go gi base n An cn ns vo vi LO LI) {a : Nat} {v : Value} {L : List Nat} (hv : vo[a]? = some v) (hL : LO[a]? = some L) : SO seI base W v L.length (numN L) :=
  h.fam.own a v L (by rw [List.getElem?_append_left (List.getElem?_eq_some_iff.1 hv).1]; exact hv) (by rw [List.getElem?_append_left (List.getElem?_eq_some_iff.1 hL).1]; exact hL)
theorem NetB.inL (h : NetB W gb go gi base n An cn ns vo vi LO LI) {a : Nat} {v : Value} {L : List Nat} (hv : vi[a]? = some v) (hL : LI[a]? = some L) : SO seI base W v L.length (numN L) :=
  h.fam.own (n + a) v L (by rw [List.getElem?_append_right (by rw [h.vol]; omega), h.vol, Nat.add_sub_cancel_left]; exact hv) (by rw [List.getElem?_append_right (by rw [h.lo]; omega), h.lo, Nat.add_sub_cancel_left]; exact hL)
/-- A row's cell is set. -/
theorem SO.set1 {E : SEl} {b0 n c g : Nat} {w : World} {vs : List Value} (h : SO E b0 w (.slice (some ⟨g, 0, none⟩) n c) n vs) (a : Nat) (u : Value) (hu : u.oneCell' = true) : SO E b0 (w.setCell ⟨g, a, none⟩ u) (.slice (some ⟨g, 0, none⟩) n c) n (vs.set a u) :=
  ⟨(h.own.stored a u).1, by rw [List.length_set]; exact h.len, fun x hx => by
    rcases List.mem_or_eq_of_mem_set hx with k | k
    · exact h.one x k
    · rw [k]; exact hu⟩
/-- One more in the list of outs of a rank: behind the append, and the store into the row. -/
theorem NetB.addO (h : NetB W gb go gi base n An cn ns vo vi LO LI) {a x : Nat} {v : Value} {L : List Nat} (hv : vo[a]? = some v) (hL : LO[a]? = some L) {g cap : Nat} (hs : SO seI base W' (.slice (some ⟨g, 0, none⟩) (L.length + 1) cap) (L.length + 1) (numN L ++ [.int .i64 (x : Nat)])) (o : Out (fun k => v.ownBlock = some k) W W') (hg : v.ownBlock = some g ∨ W.heap.size ≤ g) :
    NetB (W'.setCell ⟨go, a, none⟩ (.slice (some ⟨g, 0, none⟩) (L.length + 1) cap)) gb go gi base n An cn ns (vo.set a (.slice (some ⟨g, 0, none⟩) (L.length + 1) cap)) vi (LO.set a (L ++ [x])) LI := by
  have ha : a < n := by have := (List.getElem?_eq_some_iff.1 hv).1; rw [h.vol] at this; exact this
  have hvv : (vo ++ vi)[a]? = some v := by rw [List.getElem?_append_left (by rw [h.vol]; exact ha)]; exact hv
  have hLL : (LO ++ LI)[a]? = some L := by rw [List.getElem?_append_left (by rw [h.lo]; exact ha)]; exact hL
  have hF := h.fam.grow hvv hLL hs o hg
  rw [List.set_append_left _ _ (by rw [h.vol]; exact ha), List.set_append_left _ _ (by rw [h.lo]; exact ha)] at hF
  have hgb : base ≤ g := (hs.own.lt g rfl).1
  have hob : ∀ k, v.ownBlock = some k → base ≤ k := fun k hk => (h.fam.lt hvv hk).1
  have o2 : Out (fun k => k = go) W' (W'.setCell ⟨go, a, none⟩ (.slice (some ⟨g, 0, none⟩) (L.length + 1) cap)) := Out.setCell (F := fun k => k = go) (Out.refl _ W') (p := ⟨go, a, none⟩) (.inl rfl) _
  have o3 : Out (fun k => v.ownBlock = some k ∨ k = go) W (W'.setCell ⟨go, a, none⟩ (.slice (some ⟨g, 0, none⟩) (L.length + 1) cap)) := (o.mono fun i _ e => .inl e).then (o2.mono fun i _ e => .inr e)
  have l1 := h.lt
  have hso : SO seS 0 W' (.slice (some ⟨go, 0, none⟩) n n) n vo := h.so.out11 o fun k hk e => by
    have : go = k := by simpa [Value.ownBlock] using hk
    have := hob k e; omega
  refine ⟨?_, ⟨h.nb.len, h.nb.one, fun h0 => ?_⟩, h.nl, h.nc, h.nA, hso.set1 a _ rfl, ?_, hF.out o2 ?_, by rw [List.length_set]; exact h.lo, ⟨l1.1, l1.2.1, l1.2.2.1, Nat.le_trans l1.2.2.2 o3.size⟩, h.ne⟩
  · exact (o3.block gb (Array.getElem?_eq_some_iff.1 h.row).1 fun e => by
      rcases e with e | e
      · have := hob _ e; omega
      · exact h.ne.2.1 e.symm).trans h.row
  · obtain ⟨g', q, e, hc⟩ := h.nb.cell h0
    have hA := h.nA _ e
    dsimp only at hA
    exact ⟨g', q, e, fun j u hj => o3.cell (hc j u hj) fun e2 => by
      dsimp only at e2
      rcases e2 with e2 | e2
      · have := hob _ e2; omega
      · exact hA.2.1 e2⟩
  · exact h.si.out11 o3 fun k hk e => by
      have hk' : gi = k := by simpa [Value.ownBlock] using hk
      rcases e with e | e
      · have := hob _ e; omega
      · exact h.ne.1 (by omega)
  · intro i u k hu hk e
    have hb := (hF.lt hu hk).1
    omega
theorem NetB.addI (h : NetB W gb go gi base n An cn ns vo vi LO LI) {a x : Nat} {v : Value} {L : List Nat} (hv : vi[a]? = some v) (hL : LI[a]? = some L) {g cap : Nat} (hs : SO seI base W' (.slice (some ⟨g, 0, none⟩) (L.length + 1) cap) (L.length + 1) (numN L ++ [.int .i64 (x : Nat)])) (o : Out (fun k => v.ownBlock = some k) W W') (hg : v.ownBlock = some g ∨ W.heap.size ≤ g) :
    NetB (W'.setCell ⟨gi, a, none⟩ (.slice (some ⟨g, 0, none⟩) (L.length + 1) cap)) gb go gi base n An cn ns vo (vi.set a (.slice (some ⟨g, 0, none⟩) (L.length + 1) cap)) LO (LI.set a (L ++ [x])) := by
  have hvv : (vo ++ vi)[n + a]? = some v := by rw [List.getElem?_append_right (by rw [h.vol]; omega), h.vol, Nat.add_sub_cancel_left]; exact hv
  have hLL : (LO ++ LI)[n + a]? = some L := by rw [List.getElem?_append_right (by rw [h.lo]; omega), h.lo, Nat.add_sub_cancel_left]; exact hL
  have hF := h.fam.grow hvv hLL hs o hg
  rw [List.set_append_right _ _ (by rw [h.vol]; omega), List.set_append_right _ _ (by rw [h.lo]; omega), h.vol, h.lo, Nat.add_sub_cancel_left] at hF
  have hgb : base ≤ g := (hs.own.lt g rfl).1
  have hob : ∀ k, v.ownBlock = some k → base ≤ k := fun k hk => (h.fam.lt hvv hk).1
  have o2 : Out (fun k => k = gi) W' (W'.setCell ⟨gi, a, none⟩ (.slice (some ⟨g, 0, none⟩) (L.length + 1) cap)) := Out.setCell (F := fun k => k = gi) (Out.refl _ W') (p := ⟨gi, a, none⟩) (.inl rfl) _
  have o3 : Out (fun k => v.ownBlock = some k ∨ k = gi) W (W'.setCell ⟨gi, a, none⟩ (.slice (some ⟨g, 0, none⟩) (L.length + 1) cap)) := (o.mono fun i _ e => .inl e).then (o2.mono fun i _ e => .inr e)
  have l1 := h.lt
  have hsi : SO seS 0 W' (.slice (some ⟨gi, 0, none⟩) n n) n vi := h.si.out11 o fun k hk e => by
    have : gi = k := by simpa [Value.ownBlock] using hk
    have := hob k e; omega
  refine ⟨?_, ⟨h.nb.len, h.nb.one, fun h0 => ?_⟩, h.nl, h.nc, h.nA, ?_, hsi.set1 a _ rfl, hF.out o2 ?_, h.lo, ⟨l1.1, l1.2.1, l1.2.2.1, Nat.le_trans l1.2.2.2 o3.size⟩, h.ne⟩
  · exact (o3.block gb (Array.getElem?_eq_some_iff.1 h.row).1 fun e => by
      rcases e with e | e
      · have := hob _ e; omega
      · exact h.ne.2.2 e.symm).trans h.row
  · obtain ⟨g', q, e, hc⟩ := h.nb.cell h0
    have hA := h.nA _ e
    dsimp only at hA
    exact ⟨g', q, e, fun j u hj => o3.cell (hc j u hj) fun e2 => by
      dsimp only at e2
      rcases e2 with e2 | e2
      · have := hob _ e2; omega
      · exact hA.2.2 e2⟩
  · exact h.so.out11 o3 fun k hk e => by
      have hk' : go = k := by simpa [Value.ownBlock] using hk
      rcases e with e | e
      · have := hob _ e; omega
      · exact h.ne.1 (by omega)
  · intro i u k hu hk e
    have hb := (hF.lt hu hk).1
    omega
/-- What an append to a list of outs and the store of it leave. -/
theorem NetB.lawO (h : NetB W gb go gi base n An cn ns vo vi LO LI) {a x : Nat} {v : Value} {L : List Nat} (hv : vo[a]? = some v) (hL : LO[a]? = some L) {g cap : Nat} (hs : SO seI base W' (.slice (some ⟨g, 0, none⟩) (L.length + 1) cap) (L.length + 1) (numN L ++ [.int .i64 (x : Nat)])) (hg : W.grownBy W' v.ownBlock) (hl : v.ownBlock = some g ∨ g = W.heap.size) :
    W'.cell? ⟨gb, 1, none⟩ = some (.slice (some ⟨go, 0, none⟩) n n) ∧ W'.cell? ⟨go, a, none⟩ = some v ∧ W'.frozen? ⟨go, a, none⟩ = false ∧
    NetB (W'.setCell ⟨go, a, none⟩ (.slice (some ⟨g, 0, none⟩) (L.length + 1) cap)) gb go gi base n An cn ns (vo.set a (.slice (some ⟨g, 0, none⟩) (L.length + 1) cap)) vi (LO.set a (L ++ [x])) LI ∧
    Out (fun k => k = go ∨ k = gi ∨ base ≤ k) W (W'.setCell ⟨go, a, none⟩ (.slice (some ⟨g, 0, none⟩) (L.length + 1) cap)) := by
  have o : Out (fun k => v.ownBlock = some k) W W' := (Out.refl _ _).grown hg fun k e => .inl e
  have hob : ∀ k, v.ownBlock = some k → base ≤ k := fun k hk => ((h.outL hv hL).own.lt k hk).1
  have l1 := h.lt
  have hrow : SO seS 0 W' (.slice (some ⟨go, 0, none⟩) n n) n vo := h.so.out11 o fun k hk e => by
    have : go = k := by simpa [Value.ownBlock] using hk
    have := hob k e; omega
  refine ⟨o.cell h.cells.2.1 fun e => ?_, o.cell (h.outC hv) fun e => ?_, hrow.own.frozenAt a, h.addO hv hL hs o (hl.imp id fun e => by omega), (o.mono fun i _ e => .inr (.inr (hob i e))).then (Out.setCell (F := fun k => k = go ∨ k = gi ∨ base ≤ k) (Out.refl _ W') (p := ⟨go, a, none⟩) (.inl (.inl rfl)) _)⟩
  · have := hob _ e; dsimp only at this; omega
  · have := hob _ e; dsimp only at this; omega
/-- What an append to a list of ins and the store of it leave. -/
theorem NetB.lawI (h : NetB W gb go gi base n An cn ns vo vi LO LI) {a x : Nat} {v : Value} {L : List Nat} (hv : vi[a]? = some v) (hL : LI[a]? = some L) {g cap : Nat} (hs : SO seI base W' (.slice (some ⟨g, 0, none⟩) (L.length + 1) cap) (L.length + 1) (numN L ++ [.int .i64 (x : Nat)])) (hg : W.grownBy W' v.ownBlock) (hl : v.ownBlock = some g ∨ g = W.heap.size) :
    W'.cell? ⟨gb, 2, none⟩ = some (.slice (some ⟨gi, 0, none⟩) n n) ∧ W'.cell? ⟨gi, a, none⟩ = some v ∧ W'.frozen? ⟨gi, a, none⟩ = false ∧
    NetB (W'.setCell ⟨gi, a, none⟩ (.slice (some ⟨g, 0, none⟩) (L.length + 1) cap)) gb go gi base n An cn ns vo (vi.set a (.slice (some ⟨g, 0, none⟩) (L.length + 1) cap)) LO (LI.set a (L ++ [x])) ∧
    Out (fun k => k = go ∨ k = gi ∨ base ≤ k) W (W'.setCell ⟨gi, a, none⟩ (.slice (some ⟨g, 0, none⟩) (L.length + 1) cap)) := by
  have o : Out (fun k => v.ownBlock = some k) W W' := (Out.refl _ _).grown hg fun k e => .inl e
  have hob : ∀ k, v.ownBlock = some k → base ≤ k := fun k hk => ((h.inL hv hL).own.lt k hk).1
  have l1 := h.lt
  have hrow : SO seS 0 W' (.slice (some ⟨gi, 0, none⟩) n n) n vi := h.si.out11 o fun k hk e => by
    have : gi = k := by simpa [Value.ownBlock] using hk
    have := hob k e; omega
  refine ⟨o.cell h.cells.2.2 fun e => ?_, o.cell (h.inC hv) fun e => ?_, hrow.own.frozenAt a, h.addI hv hL hs o (hl.imp id fun e => by omega), (o.mono fun i _ e => .inr (.inr (hob i e))).then (Out.setCell (F := fun k => k = go ∨ k = gi ∨ base ≤ k) (Out.refl _ W') (p := ⟨gi, a, none⟩) (.inl (.inr (.inl rfl))) _)⟩
  · have := hob _ e; dsimp only at this; omega
  · have := hob _ e; dsimp only at this; omega
end
/-- The ranks of the numbers that a dependency leads from and to. -/
def edgeP (ns : List Int) (d : Dp) : Nat × Nat := (ns.idxOf d.fr, ns.idxOf d.to)
def edgesP (ns : List Int) (g : List Dp) : Eg := g.map (edgeP ns)
def LOf (E : Eg) (n : Nat) : List (List Nat) := (List.range n).map (outsP E)
def LIf (E : Eg) (n : Nat) : List (List Nat) := (List.range n).map (insP E)
theorem LOf_next (E : Eg) (n : Nat) (e : Nat × Nat) : LOf (E ++ [e]) n = (LOf E n).set e.1 (outsP E e.1 ++ [e.2]) := by
  apply List.ext_getElem?
  intro i
  unfold LOf
  rw [List.getElem?_set]
  simp only [List.getElem?_map, List.length_map, List.length_range]
  by_cases h : e.1 = i
  · subst h
    by_cases hi : e.1 < n
    · rw [if_pos rfl, if_pos hi, List.getElem?_range hi]
      simp [outsP]
    · rw [if_pos rfl, if_neg hi, List.getElem?_eq_none (by simpa using hi)]; rfl
  · rw [if_neg h]
    cases hr : (List.range n)[i]? with
    | none => rfl
    | some j =>
      have : j = i := by
        have := List.getElem?_eq_some_iff.1 hr
        obtain ⟨h1, h2⟩ := this
        simpa using h2.symm
      subst this
      simp [outsP, h]
theorem LIf_next (E : Eg) (n : Nat) (e : Nat × Nat) : LIf (E ++ [e]) n = (LIf E n).set e.2 (insP E e.2 ++ [e.1]) := by
  apply List.ext_getElem?
  intro i
  unfold LIf
  rw [List.getElem?_set]
  simp only [List.getElem?_map, List.length_map, List.length_range]
  by_cases h : e.2 = i
  · subst h
    by_cases hi : e.2 < n
    · rw [if_pos rfl, if_pos hi, List.getElem?_range hi]
      simp [insP]
    · rw [if_pos rfl, if_neg hi, List.getElem?_eq_none (by simpa using hi)]; rfl
  · rw [if_neg h]
    cases hr : (List.range n)[i]? with
    | none => rfl
    | some j =>
      have : j = i := by
        have := List.getElem?_eq_some_iff.1 hr
        obtain ⟨h1, h2⟩ := this
        simpa using h2.symm
      subst this
      simp [insP, h]
theorem outsP_len (E : Eg) (i : Nat) : (outsP E i).length ≤ E.length := by unfold outsP; rw [List.length_map]; exact List.length_filter_le _ _
theorem insP_len (E : Eg) (i : Nat) : (insP E i).length ≤ E.length := by unfold insP; rw [List.length_map]; exact List.length_filter_le _ _
theorem LOf_at {E : Eg} {n i : Nat} (h : i < n) : (LOf E n)[i]? = some (outsP E i) := by unfold LOf; rw [List.getElem?_map, List.getElem?_range h]; rfl
theorem LIf_at {E : Eg} {n i : Nat} (h : i < n) : (LIf E n)[i]? = some (insP E i) := by unfold LIf; rw [List.getElem?_map, List.getElem?_range h]; rfl
theorem edges_next {ns : List Int} {g : List Dp} {j : Nat} {d : Dp} (h : g[j]? = some d) : edgesP ns (g.take (j + 1)) = edgesP ns (g.take j) ++ [edgeP ns d] := by
  unfold edgesP
  rw [List.take_add_one, h, Option.toList_some, List.map_append]
  rfl
/-- A net: its numbers, and the edges between their ranks. -/
def NetAt (W : World) (gb n : Nat) (ns : List Int) (E : Eg) : Prop := ∃ go gi base An cn vo vi, NetB W gb go gi base n An cn ns vo vi (LOf E n) (LIf E n)
theorem NetAt.below {W W' : World} {gb n : Nat} {ns : List Int} {E : Eg} (h : NetAt W gb n ns E) (hb : Below W.heap.size W W') : NetAt W' gb n ns E := by
  obtain ⟨go, gi, base, An, cn, vo, vi, k⟩ := h
  exact ⟨go, gi, base, An, cn, vo, vi, k.below hb⟩
end Go.Proofs.YtbmgeobmmpaghaaGreatDoor

/- Layer 11: the program's newNet. -/
namespace Go.Proofs.YtbmgeobmmpaghaaGreatDoor
set_option maxRecDepth 100000
open Go.RowKit Go.Maps Go.ChangeMaps Go.MapKept

theorem Right.graph_mem {cs : List Int} {ac : List Ac} (h : Right cs ac) {d : Dp} (hd : d ∈ graphP cs ac) : d.fr ∈ cs ∧ d.to ∈ cs ∧ d.fr ≠ d.to := by
  obtain ⟨⟨a, ha, hda⟩, h1, h2, h3⟩ := ((graph_is cs ac).2 d).1 hd
  have hnx : ∀ it v, nextP cs ac it v ≠ 0 → nextP cs ac it v ∈ cs := fun it v hne => by
    unfold nextP at hne ⊢
    cases hf : (cs.drop (if v = 0 then 0 else (plcP cs v + 1).toNat)).find? fun n => writesP ac n it with
    | none => rw [hf] at hne; exact absurd rfl hne
    | some x => rw [Option.getD_some]; exact List.mem_of_mem_drop (List.mem_of_find?_eq_some hf)
  refine ⟨?_, ?_, h3⟩ <;> unfold depsA at hda
  · split at hda
    · rw [List.mem_singleton.1 hda]; exact h.txn a ha
    · split at hda
      · cases hda
      · rename_i hw _
        rcases List.mem_cons.1 hda with e | e
        · rw [e] at h1 ⊢
          rcases h.rd a ha (by simpa using hw) with k | k
          · exact absurd k h1
          · exact k.1
        · rw [List.mem_singleton.1 e]; exact h.txn a ha
  · split at hda
    · rw [List.mem_singleton.1 hda] at h2 ⊢; exact hnx _ _ h2
    · split at hda
      · cases hda
      · rcases List.mem_cons.1 hda with e | e
        · rw [e]; exact h.txn a ha
        · rw [List.mem_singleton.1 e] at h2 ⊢; exact hnx _ _ h2
theorem rise_nodup (l : List Int) : (riseP l).Nodup := by
  have := (rise_is l).1
  rw [List.nodup_iff_pairwise_ne]
  exact this.imp fun {a b} h e => by rw [e, ltN_irr] at h; cases h
theorem sb_int11 (X : World) (o : Nat) : SB (X.alloc (.cells #[.int .i64 (o : Int)] 3)) (some ⟨X.heap.size, 0, none⟩) (seI.s * 1) [.int .i64 (o : Int)] := by
  refine ⟨rfl, fun u hu => by rw [List.mem_singleton.1 hu]; rfl, fun _ => ⟨X.heap.size, 0, rfl, fun j u hj => ?_⟩⟩
  rw [cell_of_row _ _ _ _ _ _ (heap_alloc_new X _)]
  simpa using hj
theorem oneI : (Value.int .i64 0).oneCell' = true := rfl
section
variable {w : World} {A B : Option Addr} {n c m d : Nat} {cs : List Int} {ac : List Ac}
set_option maxHeartbeats 64000000 in
theorem wsNewNet (h : Hist w A n c B m d cs ac) (hR : Right cs ac) :
    Calls Tryz.prog 37 #[histV A n c B m d] w fun e w' => ∃ gb, e = .returned (.pointer (some ⟨gb, 0, none⟩)) ∧ NetAt w' gb n (riseP cs) (edgesP (riseP cs) (graphP cs ac)) ∧ Below w.heap.size w w' := by
  obtain ⟨W0, hB⟩ := h.box
  have HB := Lib.hid hB
  have HW := Lib.hid hB.eq
  have x0 := hB.x0
  have x1 := hB.x1
  have hn : n ≤ 4096 := by rw [← h.cl]; exact hR.lc
  have hm : m ≤ 4096 := by rw [← h.al]; exact hR.la
  have HN := Lib.hid hn
  have HM := Lib.hid hm
  have HR := Lib.hid hR
  have CV := Lib.hid (wsValues A n c W0)
  obtain ⟨W1, hW1⟩ : ∃ W, W0.alloc (.cells #[.slice A n c] 22) = W := ⟨_, rfl⟩
  have b1 : Below W0.heap.size W0 W1 := hW1 ▸ alloc_below11 W0 _
  have q1 : W1.heap[W0.heap.size]? = some (.cells #[.slice A n c] 22 (0, 0)) := hW1 ▸ heap_alloc_new W0 _
  have s1 : W1.heap.size = W0.heap.size + 1 := by have := congrArg (fun W => W.heap.size) hW1; simpa using this.symm
  have hAb : ∀ ad, A = some ad → 0 < n → ad.block < W1.heap.size := fun ad e h0 => by
    obtain ⟨g, o, e2, hc⟩ := hB.h.cb.cell h0
    rw [e] at e2
    cases e2
    obtain ⟨u, hu⟩ : ∃ u, (numC cs)[0]? = some u := ⟨_, List.getElem?_eq_getElem (by rw [numC_len, h.cl]; exact h0)⟩
    have := World.block_lt_of_cell? W0 _ (hc 0 u hu)
    dsimp only at this ⊢
    omega
  have CS := Lib.hid (wsSorted (w := W1) (bv := W0.heap.size) (N0 := W1.heap.size) (A := A) (n := n) (c := c) (cs := cs) (cell_of_row _ _ 0 _ _ _ q1) (hB.h.cb.gw b1) hB.h.cl hn (by omega) hAb (Nat.le_refl _))
  rw [sorted_is hR.nd] at CS
  have B1 := Lib.hid (below_next hB.below b1)
  have H1 := Lib.hid (hB.h.gw b1)
  have y0 := keep_below x0 b1
  have y1 := keep_below x1 b1
  have HW1 := Lib.hid hW1
  rw [hW1] at CV
  have hns : (riseP cs).length = n := by rw [← h.cl, ← sorted_is hR.nd, List.length_mergeSort]
  have hnw : ∀ x ∈ riseP cs, wfI x := fun x hx => h.cw x (((rise_is cs).2 x).1 hx)
  have HNS := Lib.hid hns
  have HNW := Lib.hid hnw
  have HND := Lib.hid (rise_nodup cs)
  have HMEM := Lib.hid (rise_is cs).2
  obtain ⟨ns, hnn⟩ : ∃ ns, riseP cs = ns := ⟨_, rfl⟩
  rw [hnn] at CS HNS HNW HND HMEM ⊢
  obtain ⟨GR, hGR⟩ : ∃ G, graphP cs ac = G := ⟨_, rfl⟩
  rw [hGR]
  have HGM := Lib.hid (show ∀ d ∈ GR, d.fr ∈ cs ∧ d.to ∈ cs ∧ d.fr ≠ d.to from fun d hd => hR.graph_mem (by rw [hGR]; exact hd))
  have HGL := Lib.hid (show GR.length ≤ 8192 by rw [← hGR]; have := graph_len cs ac ac []; unfold graphP; simp at this; have := hR.la; omega)
  have CD := Lib.hid (fun W (hW : Below W1.heap.size W1 W) => wsDeps ((hB.h.gw b1).gw hW) hR)
  rw [hGR] at CD
  clear h hB hn hm hR x1 hW1 b1 q1 s1 hAb hns hnw hnn hGR
  unfold histV
  unfold histV at CD
  go_enter Tryz.func37, Tryz.ntmps37
  go_upto_region 1 with fail
  rw [HW.out]
  go_upto_region 2 with (first
    | (go_at_call 65; go_loud (refine CV.out.mono ?_; rintro e w1 ⟨rfl, rfl⟩))
    | (go_at_call 64; go_loud (refine CS.out.mono ?_; rintro e w2 ⟨v2, rfl, s2, b2⟩; have S2 := Lib.hid s2; have B2 := Lib.hid b2; have hf2 := s2.form; obtain ⟨An, cn, rfl, hsb2, hnc, hcm, -⟩ := hf2; have SB2 := Lib.hid hsb2; have NC := Lib.hid (And.intro hnc hcm); have z0 := keep_below y0 b2; have z1 := keep_below y1 b2; clear s2 b2 hsb2 hnc hcm)))
  obtain ⟨X2, hX2⟩ : ∃ X, w2.alloc (.cells #[.slice An n cn, .slice none 0 0, .slice none 0 0] 96) = X := ⟨_, rfl⟩
  have bX2 : Below w2.heap.size w2 X2 := hX2 ▸ alloc_below11 w2 _
  have sX2 : X2.heap.size = w2.heap.size + 1 := by have := congrArg (fun W => W.heap.size) hX2; simpa using this.symm
  have r2 : X2.heap[w2.heap.size]? = some (.cells #[.slice An n cn, .slice none 0 0, .slice none 0 0] 96 (0, 0)) := hX2 ▸ heap_alloc_new w2 _
  obtain ⟨w3, mk3, so3, b3, l3⟩ := so_make seS_ok rfl rfl rfl X2 n (by have := HN.out; omega) 0 (Nat.zero_le _)
  have mk3 : (Instr.makeSlice 46 (.int .i64 (n : Int)) (.int .i64 (n : Int))).run Tryz.prog X2 = .ok (.slice (some ⟨X2.heap.size, 0, none⟩) n n) w3 := mk3
  have r3 : w3.heap[w2.heap.size]? = some (.cells #[.slice An n cn, .slice none 0 0, .slice none 0 0] 96 (0, 0)) := (b3.block _ (by omega)).trans r2
  obtain ⟨Y3, hY3⟩ : ∃ Y, w3.setCell ⟨w2.heap.size, 1, none⟩ (.slice (some ⟨X2.heap.size, 0, none⟩) n n) = Y := ⟨_, rfl⟩
  have rY3 : Y3.heap[w2.heap.size]? = some (.cells #[.slice An n cn, .slice (some ⟨X2.heap.size, 0, none⟩) n n, .slice none 0 0] 96 (0, 0)) := hY3 ▸ row_set11 r3 _
  have oY3 : Out (fun k => k = w2.heap.size) w3 Y3 := hY3 ▸ Out.setCell (F := fun k => k = w2.heap.size) (Out.refl _ w3) (p := ⟨w2.heap.size, 1, none⟩) (.inl rfl) _
  have soY3 := so3.out11 oY3 (fun k hk e => by have : X2.heap.size = k := by simpa [Value.ownBlock] using hk
                                               omega)
  have sY3 : Y3.heap.size = w3.heap.size := by have := congrArg (fun W => W.heap.size) hY3; simpa using this.symm
  obtain ⟨w4, mk4, so4, b4, l4⟩ := so_make seS_ok rfl rfl rfl Y3 n (by have := HN.out; omega) 0 (Nat.zero_le _)
  have mk4 : (Instr.makeSlice 46 (.int .i64 (n : Int)) (.int .i64 (n : Int))).run Tryz.prog Y3 = .ok (.slice (some ⟨Y3.heap.size, 0, none⟩) n n) w4 := mk4
  have r4 : w4.heap[w2.heap.size]? = some (.cells #[.slice An n cn, .slice (some ⟨X2.heap.size, 0, none⟩) n n, .slice none 0 0] 96 (0, 0)) := (b4.block _ (by omega)).trans rY3
  obtain ⟨Y4, hY4⟩ : ∃ Y, w4.setCell ⟨w2.heap.size, 2, none⟩ (.slice (some ⟨Y3.heap.size, 0, none⟩) n n) = Y := ⟨_, rfl⟩
  have rY4 : Y4.heap[w2.heap.size]? = some (.cells #[.slice An n cn, .slice (some ⟨X2.heap.size, 0, none⟩) n n, .slice (some ⟨Y3.heap.size, 0, none⟩) n n] 96 (0, 0)) := hY4 ▸ row_set11 r4 _
  have oY4 : Out (fun k => k = w2.heap.size) w4 Y4 := hY4 ▸ Out.setCell (F := fun k => k = w2.heap.size) (Out.refl _ w4) (p := ⟨w2.heap.size, 2, none⟩) (.inl rfl) _
  have soO := (soY3.below b4).out11 oY4 (fun k hk e => by have : X2.heap.size = k := by simpa [Value.ownBlock] using hk
                                                          omega)
  have soI := so4.out11 oY4 (fun k hk e => by have : Y3.heap.size = k := by simpa [Value.ownBlock] using hk
                                              omega)
  have sY4 : Y4.heap.size = w4.heap.size := by have := congrArg (fun W => W.heap.size) hY4; simpa using this.symm
  have bY : Below w2.heap.size w2 Y4 := bX2.trans ((b3.mono (by omega)).trans ((oY3.below (by omega) fun i hi e => by omega).trans ((b4.mono (by omega)).trans (oY4.below (by omega) fun i hi e => by omega))))
  have hx0 : X2.cell? ⟨w2.heap.size, 0, none⟩ = some (.slice An n cn) := cell_of_row _ _ 0 _ _ _ r2
  have h31 : w3.cell? ⟨w2.heap.size, 1, none⟩ = some (.slice none 0 0) := cell_of_row _ _ 1 _ _ _ r3
  have f31 : w3.frozen? ⟨w2.heap.size, 1, none⟩ = false := frozen_of_row _ _ _ _ _ r3
  have hy0 : Y3.cell? ⟨w2.heap.size, 0, none⟩ = some (.slice An n cn) := cell_of_row _ _ 0 _ _ _ rY3
  have h42 : w4.cell? ⟨w2.heap.size, 2, none⟩ = some (.slice none 0 0) := cell_of_row _ _ 2 _ _ _ r4
  have f42 : w4.frozen? ⟨w2.heap.size, 2, none⟩ = false := frozen_of_row _ _ _ _ _ r4
  have hz0 : Y4.cell? ⟨w2.heap.size, 0, none⟩ = some (.slice An n cn) := cell_of_row _ _ 0 _ _ _ rY4
  have v0 := keep_below z0 bY
  have v1 := keep_below z1 bY
  have CPL := Lib.hid (wsPlaces (c := cn) (SB2.out.gw bY |> fun h => (show SB Y4 An n (numC ns) by have : seI.s * n = n := Nat.one_mul n; rwa [this] at h)) HNS.out HNW.out (by have := HN.out; omega))
  have HX2 := Lib.hid hX2
  have HY3 := Lib.hid hY3
  have HY4 := Lib.hid hY4
  have BY := Lib.hid bY
  have RY4 := Lib.hid rY4
  have SOO := Lib.hid soO
  have SOI := Lib.hid soI
  have HSZ := Lib.hid (show X2.heap.size = w2.heap.size + 1 ∧ X2.heap.size < w3.heap.size ∧ Y3.heap.size = w3.heap.size ∧ Y3.heap.size < w4.heap.size ∧ Y4.heap.size = w4.heap.size from ⟨sX2, l3, sY3, l4, sY4⟩)
  clear hX2 bX2 sX2 r2 so3 b3 l3 r3 hY3 rY3 oY3 soY3 sY3 so4 b4 l4 r4 hY4 rY4 oY4 soO soI sY4 bY z0 z1
  rw [HX2.out]
  go_upto_region 3 with fail
  rw [HY3.out]
  go_upto_region 4 with fail
  rw [HY4.out]
  go_upto_region 6 with (first
    | (go_at_call 50; go_loud (refine CPL.out.mono ?_; rintro e w5 ⟨r5, rfl, m5, g5, b5⟩; have M5 := Lib.hid m5; have G5 := Lib.hid g5; have B5 := Lib.hid b5; have CD5 := Lib.hid (CD.out w5 (B2.out.trans ((BY.out.mono B2.out.size).trans (b5.mono (by have := B2.out.size; have := BY.out.size; omega))))); have u0 := keep_below v0 b5; have u1 := keep_below v1 b5; clear m5 b5 g5))
    | (go_at_call 32; go_loud (refine CD5.out.mono ?_; rintro e w6 ⟨v6, rfl, s6, b6⟩; have S6 := Lib.hid s6; have hf6 := s6.form; obtain ⟨dA, dc, rfl, hsb6, hdc, hdm, hdb⟩ := hf6; have B6 := Lib.hid b6; have DS := Lib.hid hsb6; have DB := Lib.hid hdb; clear s6 b6 hsb6 hdb hdc hdm)))
  have hsz := HSZ.out
  have hb2 := B2.out.size
  have hby := BY.out.size
  have hb5 := B5.out.size
  have hb6 := B6.out.size
  have bY6 : Below Y4.heap.size Y4 w6 := below_next B5.out B6.out
  have NB0 := Lib.hid (show NetB w6 w2.heap.size X2.heap.size Y3.heap.size w6.heap.size n An cn ns (List.replicate n (.slice none 0 0)) (List.replicate n (.slice none 0 0)) (LOf (edgesP ns (GR.take 0)) n) (LIf (edgesP ns (GR.take 0)) n) from {
    row := (bY6.block _ (by omega)).trans RY4.out
    nb := by
      have h1 := (SB2.out.gw BY.out).gw bY6
      have : seI.s * n = n := Nat.one_mul n
      rwa [this] at h1
    nl := HNS.out
    nc := NC.out
    nA := fun ad e => by
      have h3 := S2.out.own.lt
      subst e
      rcases S2.out.own.2 with ⟨hv, -⟩ | ⟨g', cap', cur', hv, -⟩
      · cases hv
      · have e2 : ad = ⟨g', 0, none⟩ := by simpa using (Value.slice.inj hv).1
        subst e2
        have := h3 g' rfl
        dsimp only
        omega
    so := SOO.out.below bY6
    si := SOI.out.below bY6
    fam := by
      have h1 := Fam.nil w6.heap.size w6 (n + n)
      have e1 : LOf (edgesP ns (GR.take 0)) n = List.replicate n [] := by
        apply List.ext_getElem <;> simp [LOf, edgesP, outsP]
      have e2 : LIf (edgesP ns (GR.take 0)) n = List.replicate n [] := by
        apply List.ext_getElem <;> simp [LIf, edgesP, insP]
      rw [e1, e2, List.replicate_append_replicate, List.replicate_append_replicate]
      exact h1
    lo := by simp [LOf]
    lt := by omega
    ne := by omega })
  clear hsz hb2 hby hb5 hb6 bY6 v0 v1 u0 u1
  go_loopw [45] (fun i wr => ∃ (j : Nat) (vo vi : List Value), i = .int .i64 (j : Nat) ∧ j ≤ GR.length ∧ NetB wr w2.heap.size X2.heap.size Y3.heap.size w6.heap.size n An cn ns vo vi (LOf (edgesP ns (GR.take j)) n) (LIf (edgesP ns (GR.take j)) n) ∧ Out (fun k => k = X2.heap.size ∨ k = Y3.heap.size) w6 wr) (fun i _ => GR.length - (intOf i).toNat)
  case atStart => exact ⟨0, _, _, rfl, Nat.zero_le _, NB0.out, Out.refl _ _⟩
  case round =>
    rename World => wr
    obtain ⟨j, vo, vi, rfl, hj, hnb, hout⟩ := hrel
    by_cases hlt : j < GR.length
    · obtain ⟨dd, hx⟩ : ∃ x, GR[j]? = some x := ⟨_, List.getElem?_eq_getElem hlt⟩
      have hDS : SB wr dA (3 * GR.length) (cellsE dpC GR) := ⟨DS.out.len, DS.out.one, fun h0 => by
        obtain ⟨g, q, e, hc⟩ := DS.out.cell h0
        refine ⟨g, q, e, fun j u hj => hout.cell (hc j u hj) fun e2 => ?_⟩
        have h1 := DB.out _ e
        have h2 := HSZ.out
        have h3 := B5.out.size
        dsimp only at e2 h1
        omega⟩
      obtain ⟨g, o, rfl, c0, c1, c2⟩ := DL.at_ hDS hx
      obtain ⟨hm1, hm2, -⟩ := HGM.out dd (List.mem_of_getElem? hx)
      have hf1 := (HMEM.out dd.fr).2 hm1
      have hf2 := (HMEM.out dd.to).2 hm2
      obtain ⟨ra, hra⟩ : ∃ a, ns.idxOf dd.fr = a := ⟨_, rfl⟩
      obtain ⟨rb, hrb⟩ : ∃ a, ns.idxOf dd.to = a := ⟨_, rfl⟩
      have hra2 : ra < n := by rw [← hra, ← HNS.out]; exact List.idxOf_lt_length_of_mem hf1
      have hrb2 : rb < n := by rw [← hrb, ← HNS.out]; exact List.idxOf_lt_length_of_mem hf2
      have HE := Lib.hid (show edgesP ns (GR.take (j + 1)) = edgesP ns (GR.take j) ++ [(ra, rb)] by rw [edges_next hx]; unfold edgeP; rw [hra, hrb])
      obtain ⟨X, hX⟩ : ∃ X, wr.alloc (.cells #[.int .i64 dd.fr, .int .i64 dd.to, .int .i64 dd.kd] 37) = X := ⟨_, rfl⟩
      have bX : Below wr.heap.size wr X := hX ▸ alloc_below11 wr _
      have qX : X.heap[wr.heap.size]? = some (.cells #[.int .i64 dd.fr, .int .i64 dd.to, .int .i64 dd.kd] 37 (0, 0)) := hX ▸ heap_alloc_new wr _
      have d0 : X.cell? ⟨wr.heap.size, 0, none⟩ = some (.int .i64 dd.fr) := cell_of_row _ _ 0 _ _ _ qX
      have d1 : X.cell? ⟨wr.heap.size, 1, none⟩ = some (.int .i64 dd.to) := cell_of_row _ _ 1 _ _ _ qX
      have mX : MapM KN X r5 (plM ns ns.length) := by
        rw [HNS.out]
        refine ((M5.out.block (B6.out.block _ M5.out.lt)).block (hout.block _ (Nat.lt_of_lt_of_le M5.out.lt B6.out.size) fun e => ?_)).block (bX.block _ (Nat.lt_of_lt_of_le (Nat.lt_of_lt_of_le M5.out.lt B6.out.size) hout.size))
        have h1 := G5.out
        have h2 := HSZ.out
        omega
      have lk1 : (Instr.lookup mapII (.map (some r5)) (.int .i64 dd.fr) false).run Tryz.prog X.drew = .ok (.int .i64 (ra : Nat)) X.drew := by
        have := (show MapM KN X.drew r5 (plM ns ns.length) from mX.block rfl).look mapII_und (zeroI X.drew) (x := dd.fr) (HNW.out _ hf1)
        rw [plM_pos HND.out] at this
        unfold posP at this
        rw [if_pos hf1, hra] at this
        exact this
      have lk2 : (Instr.lookup mapII (.map (some r5)) (.int .i64 dd.to) false).run Tryz.prog X.drew = .ok (.int .i64 (rb : Nat)) X.drew := by
        have := (show MapM KN X.drew r5 (plM ns ns.length) from mX.block rfl).look mapII_und (zeroI X.drew) (x := dd.to) (HNW.out _ hf2)
        rw [plM_pos HND.out] at this
        unfold posP at this
        rw [if_pos hf2, hrb] at this
        exact this
      have i1 : (j : Int) < (GR.length : Int) := by omega
      have l1 : (j : Int) ≤ 8192 := by have := HGL.out; omega
      have HLT := Lib.hid hlt
      have HX := Lib.hid hX
      have NX := Lib.hid (hnb.below bX)
      have OX := Lib.hid (hout.then (Out.of_below bX _))
      have HRA := Lib.hid hra2
      have HRB := Lib.hid hrb2
      obtain ⟨df, dt, dk⟩ := dd
      dsimp only at *
      clear hx hDS hm1 hm2 hf1 hf2 hra hrb hra2 hrb2 hX bX qX mX hj hlt hnb hout
      go_upto_region 8 with fail
      rw [HX.out]
      clear c0 c1 c2
      go_region
      clear d0 d1 lk1 lk2
      obtain ⟨Z, hZ⟩ : ∃ Z, X.drew = Z := ⟨_, rfl⟩
      have NZ := Lib.hid (show NetB Z _ _ _ _ _ _ _ _ _ _ _ _ from hZ ▸ NX.out.below ((Below.refl _ _).drew))
      have OZ := Lib.hid (show Out (fun k => k = X2.heap.size ∨ k = Y3.heap.size) w6 Z from hZ ▸ OX.out.drew)
      have HZ := Lib.hid hZ
      clear hZ
      rw [HZ.out]
      obtain ⟨vA, hvA⟩ : ∃ v, vo[ra]? = some v := ⟨_, List.getElem?_eq_getElem (by rw [NZ.out.vol]; exact HRA.out)⟩
      have hLA := LOf_at (E := edgesP ns (GR.take j)) HRA.out
      obtain ⟨LA, hLA2⟩ : ∃ L, outsP (edgesP ns (GR.take j)) ra = L := ⟨_, rfl⟩
      have hlA : LA.length ≤ 8192 := by
        rw [← hLA2]
        refine Nat.le_trans (outsP_len _ _) ?_
        unfold edgesP
        rw [List.length_map, List.length_take]
        have := HGL.out; omega
      have HLLA := Lib.hid hlA
      have HL2A := Lib.hid hLA2
      rw [hLA2] at hLA
      have soA := NZ.out.outL hvA hLA
      obtain ⟨AA, cA, rfl, -⟩ := soA.form
      have cgA := NZ.out.cells.2.1
      have coA := NZ.out.outC hvA
      have bzA : Below Z.heap.size Z (Z.drew.alloc (.cells #[.int .i64 (rb : Int)] 3)) := ((Below.refl _ _).drew).alloc (Nat.le_refl _) _
      have cgA2 : (Z.alloc (.cells #[.int .i64 (rb : Int)] 3)).cell? ⟨w2.heap.size, 1, none⟩ = some (.slice (some ⟨X2.heap.size, 0, none⟩) n n) := keep_below cgA (alloc_below11 _ _)
      have coA2 : (Z.alloc (.cells #[.int .i64 (rb : Int)] 3)).cell? ⟨X2.heap.size, ra, none⟩ = some (.slice AA LA.length cA) := keep_below coA (alloc_below11 _ _)
      have SOXA := Lib.hid (soA.below bzA)
      have SBXA := Lib.hid (sb_int11 Z.drew rb)
      have LAWA := Lib.hid (fun (g : Nat) (cap : Nat) (W : World) h1 h2 h3 => (NZ.out.below bzA).lawO (W' := W) (g := g) (cap := cap) (x := rb) hvA hLA h1 h2 h3)
      have BZA := Lib.hid bzA
      have BSA := Lib.hid (show w6.heap.size ≤ (Z.drew.alloc (.cells #[.int .i64 (rb : Int)] 3)).heap.size from Nat.le_trans NZ.out.lt.2.2.2 bzA.size)
      have iA : (ra : Int) < (n : Int) := by have := HRA.out; omega
      have jA : (0 : Int) ≤ (ra : Int) := by omega
      clear hvA hLA hLA2 hlA soA bzA
      go_upto_region 9 with fail
      go_cut [9] (fun v9 wx => v9 = .int .i64 (rb : Nat) ∧ ∃ vo', NetB wx w2.heap.size X2.heap.size Y3.heap.size w6.heap.size n An cn ns vo' vi ((LOf (edgesP ns (GR.take j)) n).set ra (LA ++ [rb])) (LIf (edgesP ns (GR.take j)) n) ∧ Out (fun k => k = X2.heap.size ∨ k = Y3.heap.size ∨ w6.heap.size ≤ k) Z wx)
      case first =>
        go_region_law
          ((refine so_stepL seI_ok (by rfl) (.tmp 68) (.tmp 70) (by rfl) _ (by rfl) SOXA.out Z.heap.size 1 [.int .i64 (rb : Int)] (by rfl) SBXA.out (by have := HLLA.out; simp only [seI]; omega) (by have := HLLA.out; simp only [maxLen]; omega) BSA.out ?_; intro gA9 capA9 wA9 o9 hg9 hl9; have L9 := LAWA.out gA9 capA9 wA9 o9 hg9 hl9; obtain ⟨k91, k92, k93, nb9, ou9⟩ := L9; have NBA9 := Lib.hid nb9; have OUA9 := Lib.hid ou9; clear o9 hg9 hl9 nb9 ou9))
        all_goals (go_wp2_with fail; go_meet; exact ⟨rfl, _, NBA9.out, (Out.of_below BZA.out _).then OUA9.out⟩)
      case rest =>
        obtain ⟨rfl, vo', hnb, hou⟩ := hcut
        rename World => Y
        clear cgA coA cgA2 coA2 iA jA
        have NY := Lib.hid hnb
        have OY := Lib.hid hou
        clear hnb hou
        obtain ⟨vB, hvB⟩ : ∃ v, vi[rb]? = some v := ⟨_, List.getElem?_eq_getElem (by rw [NY.out.vil]; exact HRB.out)⟩
        have hLB := LIf_at (E := edgesP ns (GR.take j)) HRB.out
        obtain ⟨LB, hLB2⟩ : ∃ L, insP (edgesP ns (GR.take j)) rb = L := ⟨_, rfl⟩
        have hlB : LB.length ≤ 8192 := by
          rw [← hLB2]
          refine Nat.le_trans (insP_len _ _) ?_
          unfold edgesP
          rw [List.length_map, List.length_take]
          have := HGL.out; omega
        have HLLB := Lib.hid hlB
        have HL2B := Lib.hid hLB2
        rw [hLB2] at hLB
        have soB := NY.out.inL hvB hLB
        obtain ⟨AB, cB, rfl, -⟩ := soB.form
        have cgB := NY.out.cells.2.2
        have coB := NY.out.inC hvB
        have bzB : Below Y.heap.size Y (Y.drew.alloc (.cells #[.int .i64 (ra : Int)] 3)) := ((Below.refl _ _).drew).alloc (Nat.le_refl _) _
        have cgB2 : (Y.alloc (.cells #[.int .i64 (ra : Int)] 3)).cell? ⟨w2.heap.size, 2, none⟩ = some (.slice (some ⟨Y3.heap.size, 0, none⟩) n n) := keep_below cgB (alloc_below11 _ _)
        have coB2 : (Y.alloc (.cells #[.int .i64 (ra : Int)] 3)).cell? ⟨Y3.heap.size, rb, none⟩ = some (.slice AB LB.length cB) := keep_below coB (alloc_below11 _ _)
        have SOXB := Lib.hid (soB.below bzB)
        have SBXB := Lib.hid (sb_int11 Y.drew ra)
        have LAWB := Lib.hid (fun (g : Nat) (cap : Nat) (W : World) h1 h2 h3 => (NY.out.below bzB).lawI (W' := W) (g := g) (cap := cap) (x := ra) hvB hLB h1 h2 h3)
        have BZB := Lib.hid bzB
        have BSB := Lib.hid (show w6.heap.size ≤ (Y.drew.alloc (.cells #[.int .i64 (ra : Int)] 3)).heap.size from Nat.le_trans NY.out.lt.2.2.2 bzB.size)
        have iB : (rb : Int) < (n : Int) := by have := HRB.out; omega
        have jB : (0 : Int) ≤ (rb : Int) := by omega
        clear hvB hLB hLB2 hlB soB bzB
        go_upto_region 10 with fail
        go_region_law
          ((refine so_stepL seI_ok (by rfl) (.tmp 84) (.tmp 86) (by rfl) _ (by rfl) SOXB.out Y.heap.size 1 [.int .i64 (ra : Int)] (by rfl) SBXB.out (by have := HLLB.out; simp only [seI]; omega) (by have := HLLB.out; simp only [maxLen]; omega) BSB.out ?_; intro gB9 capB9 wB9 o9 hg9 hl9; have L9 := LAWB.out gB9 capB9 wB9 o9 hg9 hl9; obtain ⟨k91, k92, k93, nb9, ou9⟩ := L9; have NBB9 := Lib.hid nb9; have OUB9 := Lib.hid ou9; clear o9 hg9 hl9 nb9 ou9))
        all_goals clear cgB coB cgB2 coB2 iB jB
        all_goals obtain ⟨Y2, hY2⟩ : ∃ Y, wB9.setCell ⟨Y3.heap.size, rb, none⟩ (.slice (some ⟨gB9, 0, none⟩) (LB.length + 1) capB9) = Y := ⟨_, rfl⟩
        all_goals
          (rw [hY2] at NBB9 OUB9
           have NE := Lib.hid (show NetB Y2 w2.heap.size X2.heap.size Y3.heap.size w6.heap.size n An cn ns vo' _ (LOf (edgesP ns (GR.take (j + 1))) n) (LIf (edgesP ns (GR.take (j + 1))) n) by
             rw [HE.out, LOf_next, LIf_next, HL2A.out, HL2B.out]
             exact NBB9.out)
           have OE := Lib.hid (show Out (fun k => k = X2.heap.size ∨ k = Y3.heap.size) w6 Y2 from (((OZ.out.mono (F' := fun k => k = X2.heap.size ∨ k = Y3.heap.size ∨ w6.heap.size ≤ k) fun i _ e => e.elim .inl fun e => .inr (.inl e)).then OY.out).then ((Out.of_below BZB.out _).then OUB9.out)).mono fun i hi e => by omega)
           have HY2 := Lib.hid hY2
           clear hY2 NBB9 OUB9
           rw [HY2.out]
           go_wp2
           go_roundw
           case rel => exact ⟨j + 1, _, _, by go_num, HLT.out, NE.out, OE.out⟩
           case measure => have := HLT.out; simp [intOf]; omega)
    · obtain rfl : j = GR.length := by omega
      have i1 : ¬ (GR.length : Int) < (GR.length : Int) := by omega
      have HNB := Lib.hid hnb
      have HO := Lib.hid hout
      rw [List.take_length] at HNB
      clear hj hlt hnb hout
      go_wp2
      go_ret
      have h1 := HSZ.out
      have h2 := B2.out.size
      have h3 := BY.out.size
      have h4 := B5.out.size
      have h5 := B6.out.size
      have h6 := B1.out.size
      exact ⟨_, rfl, ⟨_, _, _, _, _, _, _, HNB.out⟩, B1.out.trans ((B2.out.trans ((BY.out.mono h2).trans ((B5.out.mono (by omega)).trans ((B6.out.mono (by omega)).trans (HO.out.below (by omega) fun i hi e => by omega))))).mono h6)⟩
end
end Go.Proofs.YtbmgeobmmpaghaaGreatDoor
