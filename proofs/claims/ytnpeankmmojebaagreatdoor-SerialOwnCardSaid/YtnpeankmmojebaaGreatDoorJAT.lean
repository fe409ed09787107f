import Derived.Test.YtnpeankmmojebaaGreatDoorJAI
import Derived.Test.YtnpeankmmojebaaGreatDoorSeAC
/- Layer 11: a net in memory: its numbers, and for each rank the ranks to which and from which dependencies lead. -/
set_option linter.unusedVariables false
namespace Go.Proofs.YtnpeankmmojebaaGreatDoor
set_option maxRecDepth 100000
set_option maxRecDepth 100000
open Go.RowKit

def numN (L : List Nat) : List Value := numC (L.map fun (k : Nat) => (k : Int))
theorem numN_len (L : List Nat) : (numN L).length = L.length := by simp [numN, numC]
theorem numN_app (L M : List Nat) : numN (L ++ M) = numN L ++ numN M := by simp [numN, numC]
theorem numN_one (L : List Nat) : ∀ u ∈ numN L, u.oneCell' = true := numC_one _
theorem numN_at {L : List Nat} {j x : Nat} (h : L[j]? = some x) : (numN L)[j]? = some (.int .i64 (x : Nat)) := numC_at (by simp [h])
def seS : SEl := ⟨35, 22, .slice none 0 0, 1, 24⟩
theorem seS_ok : seS.Ok := ⟨by kernel_rfl, by kernel_rfl, by kernel_rfl, by decide, by decide, by decide⟩
/-- A block's cell is set. -/
theorem row_set11 {w : World} {b i : Nat} {cs : Array Value} {t : TypeId} (h : w.heap[b]? = some (.cells cs t (0, 0))) (u : Value) : (w.setCell ⟨b, i, none⟩ u).heap[b]? = some (.cells (cs.setIfInBounds i u) t (0, 0)) := by
  simp [World.setCell, Array.getElem?_modify, h]
/-- make of so many elements of one cell. -/
theorem so_make {E : SEl} (hE : E.Ok) (h1 : E.s = 1) (hz : E.z.cells = #[E.z]) (ho : E.z.oneCell' = true) (w : World) (n : Nat) (hn : n ≤ 1000000) (base : Nat) (hb : base ≤ w.heap.size) :
    ∃ w', (Instr.makeSlice E.t (.int .i64 (n : Int)) (.int .i64 (n : Int))).run Tryz.prog w = .ok (.slice (some ⟨w.heap.size, 0, none⟩) n n) w' ∧ SO E base w' (.slice (some ⟨w.heap.size, 0, none⟩) n n) n (List.replicate n E.z) ∧ Below w.heap.size w w' ∧ w.heap.size < w'.heap.size := by
  obtain ⟨i0, hi, hz0, hz1, hz2⟩ := info_parts hE.info
  have hb1 := hE.b1
  obtain ⟨w', hr, how, hg⟩ := run_makeSlice_full (P := Tryz.prog) w base E.t E.e i0 E.z E.s hE.und hi hz0 hz1 .i64 .i64 n (by rw [h1]; omega) (by rw [hz2]; exact Nat.le_trans (Nat.mul_le_mul hb1 hn) (by omega)) (by simp only [maxLen]; omega) hb
  have e : (madeCells E.z.cells (n * E.s)).toList = List.replicate n E.z := by
    rw [hz, h1, Nat.mul_one]
    unfold madeCells
    apply List.ext_getElem
    · simp
    · intro i k1 k2
      simp [Nat.mod_one]
  rw [e] at how
  refine ⟨w', hr, ⟨how, by rw [List.length_replicate, h1, Nat.one_mul], fun u hu => by rw [List.eq_of_mem_replicate hu]; exact ho⟩, (Below.refl _ w).grown hg (Nat.le_refl _) (fun k e => by cases e), (how.lt _ rfl).2⟩
/-- Lists of ranks, each in a row of its own, no two in one. -/
structure Fam (base : Nat) (W : World) (vv : List Value) (LL : List (List Nat)) : Prop where
  len : LL.length = vv.length
  own : ∀ (i : Nat) v L, vv[i]? = some v → LL[i]? = some L → SO seI base W v L.length (numN L)
  ne : ∀ (i j : Nat) v u k, vv[i]? = some v → vv[j]? = some u → v.ownBlock = some k → u.ownBlock = some k → i = j
theorem Fam.nil (base : Nat) (W : World) (n : Nat) : Fam base W (List.replicate n (.slice none 0 0)) (List.replicate n []) where
  len := by simp
  own i v L hv hL := by
    rw [List.getElem?_replicate] at hv hL
    split at hv
    · rename_i h
      rw [if_pos h] at hL
      cases hv; cases hL
      exact SO.nil _ _ _
    · cases hv
  ne i j v u k hv hu h1 h2 := by
    rw [List.getElem?_replicate] at hv
    split at hv
    · cases hv; cases h1
    · cases hv
section
variable {base : Nat} {W W' : World} {vv : List Value} {LL : List (List Nat)}
theorem SO.out11 {E : SEl} {n : Nat} {v : Value} {vs : List Value} {F : Nat → Prop} (h : SO E base W v n vs) (o : Out F W W') (hF : ∀ k, v.ownBlock = some k → ¬ F k) : SO E base W' v n vs :=
  ⟨own_stays h.own fun k hk => o.block k (h.own.lt k hk).2 (hF k hk), h.len, h.one⟩
theorem Fam.out (h : Fam base W vv LL) {F : Nat → Prop} (o : Out F W W') (hF : ∀ (i : Nat) v k, vv[i]? = some v → v.ownBlock = some k → ¬ F k) : Fam base W' vv LL :=
  ⟨h.len, fun i v L hv hL => (h.own i v L hv hL).out11 o fun k hk => hF i v k hv hk, h.ne⟩
theorem Fam.below (h : Fam base W vv LL) (hb : Below W.heap.size W W') : Fam base W' vv LL :=
  ⟨h.len, fun i v L hv hL => (h.own i v L hv hL).below hb, h.ne⟩
theorem Fam.lt (h : Fam base W vv LL) {i : Nat} {v : Value} {k : Nat} (hv : vv[i]? = some v) (hk : v.ownBlock = some k) : base ≤ k ∧ k < W.heap.size := by
  obtain ⟨L, hL⟩ : ∃ L, LL[i]? = some L := ⟨_, List.getElem?_eq_getElem (by rw [h.len]; exact (List.getElem?_eq_some_iff.1 hv).1)⟩
  exact (h.own i v L hv hL).own.lt k hk
/-- One list has grown. -/
theorem Fam.grow (h : Fam base W vv LL) {i : Nat} {v : Value} {L : List Nat} (hv : vv[i]? = some v) (hL : LL[i]? = some L) {g cap x : Nat} (hs : SO seI base W' (.slice (some ⟨g, 0, none⟩) (L.length + 1) cap) (L.length + 1) (numN L ++ [.int .i64 (x : Nat)])) (o : Out (fun k => v.ownBlock = some k) W W') (hg : v.ownBlock = some g ∨ W.heap.size ≤ g) :
    Fam base W' (vv.set i (.slice (some ⟨g, 0, none⟩) (L.length + 1) cap)) (LL.set i (L ++ [x])) where
  len := by simp [h.len]
  own j u M hu hM := by
    rw [List.getElem?_set] at hu hM
    by_cases e : i = j
    · subst e
      rw [if_pos rfl, if_pos (List.getElem?_eq_some_iff.1 hv).1] at hu
      rw [if_pos rfl, if_pos (List.getElem?_eq_some_iff.1 hL).1] at hM
      cases hu; cases hM
      rw [numN_app, List.length_append]
      exact hs
    · rw [if_neg e] at hu hM
      exact (h.own j u M hu hM).out11 o fun k hk h2 => e (h.ne i j v u k hv hu h2 hk)
  ne a b u t k hu ht h1 h2 := by
    rw [List.getElem?_set] at hu ht
    by_cases e : i = a
    · subst e
      rw [if_pos rfl, if_pos (List.getElem?_eq_some_iff.1 hv).1] at hu
      cases hu
      have hgk : g = k := by simpa [Value.ownBlock] using h1
      subst hgk
      by_cases e2 : i = b
      · exact e2
      · rw [if_neg e2] at ht
        rcases hg with hg | hg
        · exact absurd (h.ne i b v t g hv ht hg h2) e2
        · have := (h.lt ht h2).2; omega
    · rw [if_neg e] at hu
      by_cases e2 : i = b
      · subst e2
        rw [if_pos rfl, if_pos (List.getElem?_eq_some_iff.1 hv).1] at ht
        cases ht
        have hgk : g = k := by simpa [Value.ownBlock] using h2
        subst hgk
        rcases hg with hg | hg
        · exact absurd (h.ne i a v u g hv hu hg h1) e
        · have := (h.lt hu h1).2; omega
      · rw [if_neg e2] at ht
        exact h.ne a b u t k hu ht h1 h2
end
end Go.Proofs.YtnpeankmmojebaaGreatDoor

/- Layer 11: a net as it is built. -/
namespace Go.Proofs.YtnpeankmmojebaaGreatDoor
set_option maxRecDepth 100000
set_option maxRecDepth 100000
open Go.RowKit

/-- A net on its way: block gb, its rows go and gi, the lists from block base on. -/
structure NetB (W : World) (gb go gi base n : Nat) (An : Option Addr) (cn : Nat) (ns : List Int) (vo vi : List Value) (LO LI : List (List Nat)) : Prop where
  row : W.heap[gb]? = some (.cells #[.slice An n cn, .slice (some ⟨go, 0, none⟩) n n, .slice (some ⟨gi, 0, none⟩) n n] 79 (0, 0))
  nb : SB W An n (numC ns)
  nl : ns.length = n
  nc : n ≤ cn ∧ cn ≤ maxLen
  nA : ∀ ad, An = some ad → ad.block < base ∧ ad.block ≠ go ∧ ad.block ≠ gi
  so : SO seS 0 W (.slice (some ⟨go, 0, none⟩) n n) n vo
  si : SO seS 0 W (.slice (some ⟨gi, 0, none⟩) n n) n vi
  fam : Fam base W (vo ++ vi) (LO ++ LI)
  lo : LO.length = n
  lt : gb < base ∧ go < base ∧ gi < base ∧ base ≤ W.heap.size
  ne : go ≠ gi ∧ go ≠ gb ∧ gi ≠ gb
section
variable {W W' : World} {gb go gi base n cn : Nat} {An : Option Addr} {ns : List Int} {vo vi : List Value} {LO LI : List (List Nat)}
theorem NetB.vol (h : NetB W gb go gi base n An cn ns vo vi LO LI) : vo.length = n := by have := h.so.len; simpa [seS] using this
theorem NetB.vil (h : NetB W gb go gi base n An cn ns vo vi LO LI) : vi.length = n := by have := h.si.len; simpa [seS] using this
theorem NetB.lil (h : NetB W gb go gi base n An cn ns vo vi LO LI) : LI.length = n := by
  have h1 := h.fam.len
  rw [List.length_append, List.length_append, h.vol, h.vil, h.lo] at h1
  omega
theorem NetB.out (h : NetB W gb go gi base n An cn ns vo vi LO LI) {F : Nat → Prop} (o : Out F W W') (hF : ∀ k, F k → base ≤ k ∧ ∀ (i : Nat) v, (vo ++ vi)[i]? = some v → v.ownBlock ≠ some k) : NetB W' gb go gi base n An cn ns vo vi LO LI where
  row := (o.block gb (Array.getElem?_eq_some_iff.1 h.row).1 fun e => by have := (hF _ e).1; have := h.lt.1; omega).trans h.row
  nb := ⟨h.nb.len, h.nb.one, fun h0 => by
    obtain ⟨g, q, e, hc⟩ := h.nb.cell h0
    exact ⟨g, q, e, fun j u hj => o.cell (hc j u hj) fun e2 => by have := (hF _ e2).1; have := (h.nA _ e).1; dsimp only at *; omega⟩⟩
  nl := h.nl
  nc := h.nc
  nA := h.nA
  so := h.so.out11 o fun k hk e => by
    have : go = k := by simpa [Value.ownBlock] using hk
    have := (hF _ e).1; have := h.lt.2.1; omega
  si := h.si.out11 o fun k hk e => by
    have : gi = k := by simpa [Value.ownBlock] using hk
    have := (hF _ e).1; have := h.lt.2.2.1; omega
  fam := h.fam.out o fun i v k hv hk e => (hF _ e).2 i v hv hk
  lo := h.lo
  lt := ⟨h.lt.1, h.lt.2.1, h.lt.2.2.1, Nat.le_trans h.lt.2.2.2 o.size⟩
  ne := h.ne
theorem NetB.below (h : NetB W gb go gi base n An cn ns vo vi LO LI) (hb : Below W.heap.size W W') : NetB W' gb go gi base n An cn ns vo vi LO LI :=
  h.out (F := fun _ => False) (Out.of_below hb _) fun _ e => e.elim
theorem NetB.cells (h : NetB W gb go gi base n An cn ns vo vi LO LI) : W.cell? ⟨gb, 0, none⟩ = some (.slice An n cn) ∧ W.cell? ⟨gb, 1, none⟩ = some (.slice (some ⟨go, 0, none⟩) n n) ∧ W.cell? ⟨gb, 2, none⟩ = some (.slice (some ⟨gi, 0, none⟩) n n) :=
  ⟨cell_of_row _ _ 0 _ _ _ h.row, cell_of_row _ _ 1 _ _ _ h.row, cell_of_row _ _ 2 _ _ _ h.row⟩
theorem SO.cell1 {E : SEl} {base n c g : Nat} {w : World} {vs : List Value} (h : SO E base w (.slice (some ⟨g, 0, none⟩) n c) n vs) (j : Nat) : w.cell? ⟨g, j, none⟩ = vs[j]? ∨ vs.length ≤ j := by
  rcases Nat.lt_or_ge j vs.length with h1 | h1
  · left
    have := h.own.cellAt j (by rw [← h.own.1]; exact h1)
    exact this
  · exact .inr h1
theorem NetB.outC (h : NetB W gb go gi base n An cn ns vo vi LO LI) {a : Nat} {v : Value} (hv : vo[a]? = some v) : W.cell? ⟨go, a, none⟩ = some v := by
  rcases h.so.cell1 a with k | k
  · exact k.trans hv
  · have := (List.getElem?_eq_some_iff.1 hv).1; omega
theorem NetB.inC (h : NetB W gb go gi base n An cn ns vo vi LO LI) {a : Nat} {v : Value} (hv : vi[a]? = some v) : W.cell? ⟨gi, a, none⟩ = some v := by
  rcases h.si.cell1 a with k | k
  · exact k.trans hv
  · have := (List.getElem?_eq_some_iff.1 hv).1; omega
theorem NetB.outL (h : NetB W gb go gi base n An cn ns vo vi LO LI) {a : Nat} {v : Value} {L : List Nat} (hv : vo[a]? = some v) (hL : LO[a]? = some L) : SO seI base W v L.length (numN L) :=
  h.fam.own a v L (by rw [List.getElem?_append_left (List.getElem?_eq_some_iff.1 hv).1]; exact hv) (by rw [List.getElem?_append_left (List.getElem?_eq_some_iff.1 hL).1]; exact hL)
theorem NetB.inL (h : NetB W gb go gi base n An cn ns vo vi LO LI) {a : Nat} {v : Value} {L : List Nat} (hv : vi[a]? = some v) (hL : LI[a]? = some L) : SO seI base W v L.length (numN L) :=
  h.fam.own (n + a) v L (by rw [List.getElem?_append_right (by rw [h.vol]; omega), h.vol, Nat.add_sub_cancel_left]; exact hv) (by rw [List.getElem?_append_right (by rw [h.lo]; omega), h.lo, Nat.add_sub_cancel_left]; exact hL)
/-- A row's cell is set. -/
theorem SO.set1 {E : SEl} {b0 n c g : Nat} {w : World} {vs : List Value} (h : SO E b0 w (.slice (some ⟨g, 0, none⟩) n c) n vs) (a : Nat) (u : Value) (hu : u.oneCell' = true) : SO E b0 (w.setCell ⟨g, a, none⟩ u) (.slice (some ⟨g, 0, none⟩) n c) n (vs.set a u) :=
  ⟨(h.own.stored a u).1, by rw [List.length_set]; exact h.len, fun x hx => by
    rcases List.mem_or_eq_of_mem_set hx with k | k
    · exact h.one x k
    · rw [k]; exact hu⟩
/-- One more in the list of outs of a rank: behind the append, and the store into the row. -/
theorem NetB.addO (h : NetB W gb go gi base n An cn ns vo vi LO LI) {a x : Nat} {v : Value} {L : List Nat} (hv : vo[a]? = some v) (hL : LO[a]? = some L) {g cap : Nat} (hs : SO seI base W' (.slice (some ⟨g, 0, none⟩) (L.length + 1) cap) (L.length + 1) (numN L ++ [.int .i64 (x : Nat)])) (o : Out (fun k => v.ownBlock = some k) W W') (hg : v.ownBlock = some g ∨ W.heap.size ≤ g) :
    NetB (W'.setCell ⟨go, a, none⟩ (.slice (some ⟨g, 0, none⟩) (L.length + 1) cap)) gb go gi base n An cn ns (vo.set a (.slice (some ⟨g, 0, none⟩) (L.length + 1) cap)) vi (LO.set a (L ++ [x])) LI := by
  have ha : a < n := by have := (List.getElem?_eq_some_iff.1 hv).1; rw [h.vol] at this; exact this
  have hvv : (vo ++ vi)[a]? = some v := by rw [List.getElem?_append_left (by rw [h.vol]; exact ha)]; exact hv
  have hLL : (LO ++ LI)[a]? = some L := by rw [List.getElem?_append_left (by rw [h.lo]; exact ha)]; exact hL
  have hF := h.fam.grow hvv hLL hs o hg
  rw [List.set_append_left _ _ (by rw [h.vol]; exact ha), List.set_append_left _ _ (by rw [h.lo]; exact ha)] at hF
  have hgb : base ≤ g := (hs.own.lt g rfl).1
  have hob : ∀ k, v.ownBlock = some k → base ≤ k := fun k hk => (h.fam.lt hvv hk).1
  have o2 : Out (fun k => k = go) W' (W'.setCell ⟨go, a, none⟩ (.slice (some ⟨g, 0, none⟩) (L.length + 1) cap)) := Out.setCell (F := fun k => k = go) (Out.refl _ W') (p := ⟨go, a, none⟩) (.inl rfl) _
  have o3 : Out (fun k => v.ownBlock = some k ∨ k = go) W (W'.setCell ⟨go, a, none⟩ (.slice (some ⟨g, 0, none⟩) (L.length + 1) cap)) := (o.mono fun i _ e => .inl e).then (o2.mono fun i _ e => .inr e)
  have l1 := h.lt
  have hso : SO seS 0 W' (.slice (some ⟨go, 0, none⟩) n n) n vo := h.so.out11 o fun k hk e => by
    have : go = k := by simpa [Value.ownBlock] using hk
    have := hob k e; omega
  refine ⟨?_, ⟨h.nb.len, h.nb.one, fun h0 => ?_⟩, h.nl, h.nc, h.nA, hso.set1 a _ rfl, ?_, hF.out o2 ?_, by rw [List.length_set]; exact h.lo, ⟨l1.1, l1.2.1, l1.2.2.1, Nat.le_trans l1.2.2.2 o3.size⟩, h.ne⟩
  · exact (o3.block gb (Array.getElem?_eq_some_iff.1 h.row).1 fun e => by
      rcases e with e | e
      · have := hob _ e; omega
      · exact h.ne.2.1 e.symm).trans h.row
  · obtain ⟨g', q, e, hc⟩ := h.nb.cell h0
    have hA := h.nA _ e
    dsimp only at hA
    exact ⟨g', q, e, fun j u hj => o3.cell (hc j u hj) fun e2 => by
      dsimp only at e2
      rcases e2 with e2 | e2
      · have := hob _ e2; omega
      · exact hA.2.1 e2⟩
  · exact h.si.out11 o3 fun k hk e => by
      have hk' : gi = k := by simpa [Value.ownBlock] using hk
      rcases e with e | e
      · have := hob _ e; omega
      · exact h.ne.1 (by omega)
  · intro i u k hu hk e
    have hb := (hF.lt hu hk).1
    omega
theorem NetB.addI (h : NetB W gb go gi base n An cn ns vo vi LO LI) {a x : Nat} {v : Value} {L : List Nat} (hv : vi[a]? = some v) (hL : LI[a]? = some L) {g cap : Nat} (hs : SO seI base W' (.slice (some ⟨g, 0, none⟩) (L.length + 1) cap) (L.length + 1) (numN L ++ [.int .i64 (x : Nat)])) (o : Out (fun k => v.ownBlock = some k) W W') (hg : v.ownBlock = some g ∨ W.heap.size ≤ g) :
    NetB (W'.setCell ⟨gi, a, none⟩ (.slice (some ⟨g, 0, none⟩) (L.length + 1) cap)) gb go gi base n An cn ns vo (vi.set a (.slice (some ⟨g, 0, none⟩) (L.length + 1) cap)) LO (LI.set a (L ++ [x])) := by
  have hvv : (vo ++ vi)[n + a]? = some v := by rw [List.getElem?_append_right (by rw [h.vol]; omega), h.vol, Nat.add_sub_cancel_left]; exact hv
  have hLL : (LO ++ LI)[n + a]? = some L := by rw [List.getElem?_append_right (by rw [h.lo]; omega), h.lo, Nat.add_sub_cancel_left]; exact hL
  have hF := h.fam.grow hvv hLL hs o hg
  rw [List.set_append_right _ _ (by rw [h.vol]; omega), List.set_append_right _ _ (by rw [h.lo]; omega), h.vol, h.lo, Nat.add_sub_cancel_left] at hF
  have hgb : base ≤ g := (hs.own.lt g rfl).1
  have hob : ∀ k, v.ownBlock = some k → base ≤ k := fun k hk => (h.fam.lt hvv hk).1
  have o2 : Out (fun k => k = gi) W' (W'.setCell ⟨gi, a, none⟩ (.slice (some ⟨g, 0, none⟩) (L.length + 1) cap)) := Out.setCell (F := fun k => k = gi) (Out.refl _ W') (p := ⟨gi, a, none⟩) (.inl rfl) _
  have o3 : Out (fun k => v.ownBlock = some k ∨ k = gi) W (W'.setCell ⟨gi, a, none⟩ (.slice (some ⟨g, 0, none⟩) (L.length + 1) cap)) := (o.mono fun i _ e => .inl e).then (o2.mono fun i _ e => .inr e)
  have l1 := h.lt
  have hsi : SO seS 0 W' (.slice (some ⟨gi, 0, none⟩) n n) n vi := h.si.out11 o fun k hk e => by
    have : gi = k := by simpa [Value.ownBlock] using hk
    have := hob k e; omega
  refine ⟨?_, ⟨h.nb.len, h.nb.one, fun h0 => ?_⟩, h.nl, h.nc, h.nA, ?_, hsi.set1 a _ rfl, hF.out o2 ?_, h.lo, ⟨l1.1, l1.2.1, l1.2.2.1, Nat.le_trans l1.2.2.2 o3.size⟩, h.ne⟩
  · exact (o3.block gb (Array.getElem?_eq_some_iff.1 h.row).1 fun e => by
      rcases e with e | e
      · have := hob _ e; omega
      · exact h.ne.2.2 e.symm).trans h.row
  · obtain ⟨g', q, e, hc⟩ := h.nb.cell h0
    have hA := h.nA _ e
    dsimp only at hA
    exact ⟨g', q, e, fun j u hj => o3.cell (hc j u hj) fun e2 => by
      dsimp only at e2
      rcases e2 with e2 | e2
      · have := hob _ e2; omega
      · exact hA.2.2 e2⟩
  · exact h.so.out11 o3 fun k hk e => by
      have hk' : go = k := by simpa [Value.ownBlock] using hk
      rcases e with e | e
      · have := hob _ e; omega
      · exact h.ne.1 (by omega)
  · intro i u k hu hk e
    have hb := (hF.lt hu hk).1
    omega
/-- What an append to a list of outs and the store of it leave. -/
theorem NetB.lawO (h : NetB W gb go gi base n An cn ns vo vi LO LI) {a x : Nat} {v : Value} {L : List Nat} (hv : vo[a]? = some v) (hL : LO[a]? = some L) {g cap : Nat} (hs : SO seI base W' (.slice (some ⟨g, 0, none⟩) (L.length + 1) cap) (L.length + 1) (numN L ++ [.int .i64 (x : Nat)])) (hg : W.grownBy W' v.ownBlock) (hl : v.ownBlock = some g ∨ g = W.heap.size) :
    W'.cell? ⟨gb, 1, none⟩ = some (.slice (some ⟨go, 0, none⟩) n n) ∧ W'.cell? ⟨go, a, none⟩ = some v ∧ W'.frozen? ⟨go, a, none⟩ = false ∧
    NetB (W'.setCell ⟨go, a, none⟩ (.slice (some ⟨g, 0, none⟩) (L.length + 1) cap)) gb go gi base n An cn ns (vo.set a (.slice (some ⟨g, 0, none⟩) (L.length + 1) cap)) vi (LO.set a (L ++ [x])) LI ∧
    Out (fun k => k = go ∨ k = gi ∨ base ≤ k) W (W'.setCell ⟨go, a, none⟩ (.slice (some ⟨g, 0, none⟩) (L.length + 1) cap)) := by
  have o : Out (fun k => v.ownBlock = some k) W W' := (Out.refl _ _).grown hg fun k e => .inl e
  have hob : ∀ k, v.ownBlock = some k → base ≤ k := fun k hk => ((h.outL hv hL).own.lt k hk).1
  have l1 := h.lt
  have hrow : SO seS 0 W' (.slice (some ⟨go, 0, none⟩) n n) n vo := h.so.out11 o fun k hk e => by
    have : go = k := by simpa [Value.ownBlock] using hk
    have := hob k e; omega
  refine ⟨o.cell h.cells.2.1 fun e => ?_, o.cell (h.outC hv) fun e => ?_, hrow.own.frozenAt a, h.addO hv hL hs o (hl.imp id fun e => by omega), (o.mono fun i _ e => .inr (.inr (hob i e))).then (Out.setCell (F := fun k => k = go ∨ k = gi ∨ base ≤ k) (Out.refl _ W') (p := ⟨go, a, none⟩) (.inl (.inl rfl)) _)⟩
  · have := hob _ e; dsimp only at this; omega
  · have := hob _ e; dsimp only at this; omega
/-- What an append to a list of ins and the store of it leave. -/
theorem NetB.lawI (h : NetB W gb go gi base n An cn ns vo vi LO LI) {a x : Nat} {v : Value} {L : List Nat} (hv : vi[a]? = some v) (hL : LI[a]? = some L) {g cap : Nat} (hs : SO seI base W' (.slice (some ⟨g, 0, none⟩) (L.length + 1) cap) (L.length + 1) (numN L ++ [.int .i64 (x : Nat)])) (hg : W.grownBy W' v.ownBlock) (hl : v.ownBlock = some g ∨ g = W.heap.size) :
    W'.cell? ⟨gb, 2, none⟩ = some (.slice (some ⟨gi, 0, none⟩) n n) ∧ W'.cell? ⟨gi, a, none⟩ = some v ∧ W'.frozen? ⟨gi, a, none⟩ = false ∧
    NetB (W'.setCell ⟨gi, a, none⟩ (.slice (some ⟨g, 0, none⟩) (L.length + 1) cap)) gb go gi base n An cn ns vo (vi.set a (.slice (some ⟨g, 0, none⟩) (L.length + 1) cap)) LO (LI.set a (L ++ [x])) ∧
    Out (fun k => k = go ∨ k = gi ∨ base ≤ k) W (W'.setCell ⟨gi, a, none⟩ (.slice (some ⟨g, 0, none⟩) (L.length + 1) cap)) := by
  have o : Out (fun k => v.ownBlock = some k) W W' := (Out.refl _ _).grown hg fun k e => .inl e
  have hob : ∀ k, v.ownBlock = some k → base ≤ k := fun k hk => ((h.inL hv hL).own.lt k hk).1
  have l1 := h.lt
  have hrow : SO seS 0 W' (.slice (some ⟨gi, 0, none⟩) n n) n vi := h.si.out11 o fun k hk e => by
    have : gi = k := by simpa [Value.ownBlock] using hk
    have := hob k e; omega
  refine ⟨o.cell h.cells.2.2 fun e => ?_, o.cell (h.inC hv) fun e => ?_, hrow.own.frozenAt a, h.addI hv hL hs o (hl.imp id fun e => by omega), (o.mono fun i _ e => .inr (.inr (hob i e))).then (Out.setCell (F := fun k => k = go ∨ k = gi ∨ base ≤ k) (Out.refl _ W') (p := ⟨gi, a, none⟩) (.inl (.inr (.inl rfl))) _)⟩
  · have := hob _ e; dsimp only at this; omega
  · have := hob _ e; dsimp only at this; omega
end
/-- The ranks of the numbers that a dependency leads from and to. -/
def edgeP (ns : List Int) (d : Dp) : Nat × Nat := (ns.idxOf d.fr, ns.idxOf d.to)
def edgesP (ns : List Int) (g : List Dp) : Eg := g.map (edgeP ns)
def LOf (E : Eg) (n : Nat) : List (List Nat) := (List.range n).map (outsP E)
def LIf (E : Eg) (n : Nat) : List (List Nat) := (List.range n).map (insP E)
theorem LOf_next (E : Eg) (n : Nat) (e : Nat × Nat) : LOf (E ++ [e]) n = (LOf E n).set e.1 (outsP E e.1 ++ [e.2]) := by
  apply List.ext_getElem?
  intro i
  unfold LOf
  rw [List.getElem?_set]
  simp only [List.getElem?_map, List.length_map, List.length_range]
  by_cases h : e.1 = i
  · subst h
    by_cases hi : e.1 < n
    · rw [if_pos rfl, if_pos hi, List.getElem?_range hi]
      simp [outsP]
    · rw [if_pos rfl, if_neg hi, List.getElem?_eq_none (by simpa using hi)]; rfl
  · rw [if_neg h]
    cases hr : (List.range n)[i]? with
    | none => rfl
    | some j =>
      have : j = i := by
        have := List.getElem?_eq_some_iff.1 hr
        obtain ⟨h1, h2⟩ := this
        simpa using h2.symm
      subst this
      simp [outsP, h]
theorem LIf_next (E : Eg) (n : Nat) (e : Nat × Nat) : LIf (E ++ [e]) n = (LIf E n).set e.2 (insP E e.2 ++ [e.1]) := by
  apply List.ext_getElem?
  intro i
  unfold LIf
  rw [List.getElem?_set]
  simp only [List.getElem?_map, List.length_map, List.length_range]
  by_cases h : e.2 = i
  · subst h
    by_cases hi : e.2 < n
    · rw [if_pos rfl, if_pos hi, List.getElem?_range hi]
      simp [insP]
    · rw [if_pos rfl, if_neg hi, List.getElem?_eq_none (by simpa using hi)]; rfl
  · rw [if_neg h]
    cases hr : (List.range n)[i]? with
    | none => rfl
    | some j =>
      have : j = i := by
        have := List.getElem?_eq_some_iff.1 hr
        obtain ⟨h1, h2⟩ := this
        simpa using h2.symm
      subst this
      simp [insP, h]
theorem outsP_len (E : Eg) (i : Nat) : (outsP E i).length ≤ E.length := by unfold outsP; rw [List.length_map]; exact List.length_filter_le _ _
theorem insP_len (E : Eg) (i : Nat) : (insP E i).length ≤ E.length := by unfold insP; rw [List.length_map]; exact List.length_filter_le _ _
theorem LOf_at {E : Eg} {n i : Nat} (h : i < n) : (LOf E n)[i]? = some (outsP E i) := by unfold LOf; rw [List.getElem?_map, List.getElem?_range h]; rfl
theorem LIf_at {E : Eg} {n i : Nat} (h : i < n) : (LIf E n)[i]? = some (insP E i) := by unfold LIf; rw [List.getElem?_map, List.getElem?_range h]; rfl
theorem edges_next {ns : List Int} {g : List Dp} {j : Nat} {d : Dp} (h : g[j]? = some d) : edgesP ns (g.take (j + 1)) = edgesP ns (g.take j) ++ [edgeP ns d] := by
  unfold edgesP
  rw [List.take_add_one, h, Option.toList_some, List.map_append]
  rfl
/-- A net: its numbers, and the edges between their ranks. -/
def NetAt (W : World) (gb n : Nat) (ns : List Int) (E : Eg) : Prop := ∃ go gi base An cn vo vi, NetB W gb go gi base n An cn ns vo vi (LOf E n) (LIf E n)
theorem NetAt.below {W W' : World} {gb n : Nat} {ns : List Int} {E : Eg} (h : NetAt W gb n ns E) (hb : Below W.heap.size W W') : NetAt W' gb n ns E := by
  obtain ⟨go, gi, base, An, cn, vo, vi, k⟩ := h
  exact ⟨go, gi, base, An, cn, vo, vi, k.below hb⟩
end Go.Proofs.YtnpeankmmojebaaGreatDoor
