/- Layer 11: a net in memory: its numbers, and for each rank the ranks to which and from which dependencies lead. -/
import Derived.Test.YtnpeankmmojebaaDoorJAI
import Derived.Test.YtnpeankmmojebaaDoorSeAC
set_option linter.unusedVariables false
namespace Go.Proofs.YtnpeankmmojebaaDoor
set_option maxRecDepth 100000
set_option maxRecDepth 100000
open Go.RowKit

def numN (L : List Nat) : List Value := numC (L.map fun (k : Nat) => (k : Int))
theorem numN_len (L : List Nat) : (numN L).length = L.length := by simp [numN, numC]
theorem numN_app (L M : List Nat) : numN (L ++ M) = numN L ++ numN M := by simp [numN, numC]
theorem numN_one (L : List Nat) : ∀ u ∈ numN L, u.oneCell' = true := numC_one _
theorem numN_at {L : List Nat} {j x : Nat} (h : L[j]? = some x) : (numN L)[j]? = some (.int .i64 (x : Nat)) := numC_at (by simp [h])
def seS : SEl := ⟨57, 22, .slice none 0 0, 1, 24⟩
theorem seS_ok : seS.Ok := ⟨by kernel_rfl, by kernel_rfl, by kernel_rfl, by decide, by decide, by decide⟩
/-- A block's cell is set. -/
theorem row_set11 {w : World} {b i : Nat} {cs : Array Value} {t : TypeId} (h : w.heap[b]? = some (.cells cs t (0, 0))) (u : Value) : (w.setCell ⟨b, i, none⟩ u).heap[b]? = some (.cells (cs.setIfInBounds i u) t (0, 0)) := by
  simp [World.setCell, Array.getElem?_modify, h]
/-- make of so many elements of one cell. -/
theorem so_make {E : SEl} (hE : E.Ok) (h1 : E.s = 1) (hz : E.z.cells = #[E.z]) (ho : E.z.oneCell' = true) (w : World) (n : Nat) (hn : n ≤ 1000000) (base : Nat) (hb : base ≤ w.heap.size) :
    ∃ w', (Instr.makeSlice E.t (.int .i64 (n : Int)) (.int .i64 (n : Int))).run Tryd.prog w = .ok (.slice (some ⟨w.heap.size, 0, none⟩) n n) w' ∧ SO E base w' (.slice (some ⟨w.heap.size, 0, none⟩) n n) n (List.replicate n E.z) ∧ Below w.heap.size w w' ∧ w.heap.size < w'.heap.size := by
  obtain ⟨i0, hi, hz0, hz1, hz2⟩ := info_parts hE.info
  have hb1 := hE.b1
  obtain ⟨w', hr, how, hg⟩ := run_makeSlice_full (P := Tryd.prog) w base E.t E.e i0 E.z E.s hE.und hi hz0 hz1 .i64 .i64 n (by rw [h1]; omega) (by rw [hz2]; exact Nat.le_trans (Nat.mul_le_mul hb1 hn) (by omega)) (by simp only [maxLen]; omega) hb
  have e : (madeCells E.z.cells (n * E.s)).toList = List.replicate n E.z := by
    rw [hz, h1, Nat.mul_one]
    unfold madeCells
    apply List.ext_getElem
    · simp
    · intro i k1 k2
      simp [Nat.mod_one]
  rw [e] at how
  refine ⟨w', hr, ⟨how, by rw [List.length_replicate, h1, Nat.one_mul], fun u hu => by rw [List.eq_of_mem_replicate hu]; exact ho⟩, (Below.refl _ w).grown hg (Nat.le_refl _) (fun k e => by cases e), (how.lt _ rfl).2⟩
/-- Lists of ranks, each in a row of its own, no two in one. -/
structure Fam (base : Nat) (W : World) (vv : List Value) (LL : List (List Nat)) : Prop where
  len : LL.length = vv.length
  own : ∀ (i : Nat) v L, vv[i]? = some v → LL[i]? = some L → SO seI base W v L.length (numN L)
  ne : ∀ (i j : Nat) v u k, vv[i]? = some v → vv[j]? = some u → v.ownBlock = some k → u.ownBlock = some k → i = j
theorem Fam.nil (base : Nat) (W : World) (n : Nat) : Fam base W (List.replicate n (.slice none 0 0)) (List.replicate n []) where
  len := by simp
  own i v L hv hL := by
    rw [List.getElem?_replicate] at hv hL
    split at hv
    · rename_i h
      rw [if_pos h] at hL
      cases hv; cases hL
      exact SO.nil _ _ _
    · cases hv
  ne i j v u k hv hu h1 h2 := by
    rw [List.getElem?_replicate] at hv
    split at hv
    · cases hv; cases h1
    · cases hv
section
variable {base : Nat} {W W' : World} {vv : List Value} {LL : List (List Nat)}
theorem SO.out11 {E : SEl} {n : Nat} {v : Value} {vs : List Value} {F : Nat → Prop} (h : SO E base W v n vs) (o : Out F W W') (hF : ∀ k, v.ownBlock = some k → ¬ F k) : SO E base W' v n vs :=
  ⟨own_stays h.own fun k hk => o.block k (h.own.lt k hk).2 (hF k hk), h.len, h.one⟩
theorem Fam.out (h : Fam base W vv LL) {F : Nat → Prop} (o : Out F W W') (hF : ∀ (i : Nat) v k, vv[i]? = some v → v.ownBlock = some k → ¬ F k) : Fam base W' vv LL :=
  ⟨h.len, fun i v L hv hL => (h.own i v L hv hL).out11 o fun k hk => hF i v k hv hk, h.ne⟩
theorem Fam.below (h : Fam base W vv LL) (hb : Below W.heap.size W W') : Fam base W' vv LL :=
  ⟨h.len, fun i v L hv hL => (h.own i v L hv hL).below hb, h.ne⟩
theorem Fam.lt (h : Fam base W vv LL) {i : Nat} {v : Value} {k : Nat} (hv : vv[i]? = some v) (hk : v.ownBlock = some k) : base ≤ k ∧ k < W.heap.size := by
  obtain ⟨L, hL⟩ : ∃ L, LL[i]? = some L := ⟨_, List.getElem?_eq_getElem (by rw [h.len]; exact (List.getElem?_eq_some_iff.1 hv).1)⟩
  exact (h.own i v L hv hL).own.lt k hk
/-- One list has grown. -/
theorem Fam.grow (h : Fam base W vv LL) {i : Nat} {v : Value} {L : List Nat} (hv : vv[i]? = some v) (hL : LL[i]? = some L) {g cap x : Nat} (hs : SO seI base W' (.slice (some ⟨g, 0, none⟩) (L.length + 1) cap) (L.length + 1) (numN L ++ [.int .i64 (x : Nat)])) (o : Out (fun k => v.ownBlock = some k) W W') (hg : v.ownBlock = some g ∨ W.heap.size ≤ g) :
    Fam base W' (vv.set i (.slice (some ⟨g, 0, none⟩) (L.length + 1) cap)) (LL.set i (L ++ [x])) where
  len := by simp [h.len]
  own j u M hu hM := by
    rw [List.getElem?_set] at hu hM
    by_cases e : i = j
    · subst e
      rw [if_pos rfl, if_pos (List.getElem?_eq_some_iff.1 hv).1] at hu
      rw [if_pos rfl, if_pos (List.getElem?_eq_some_iff.1 hL).1] at hM
      cases hu; cases hM
      rw [numN_app, List.length_append]
      exact hs
    · rw [if_neg e] at hu hM
      exact (h.own j u M hu hM).out11 o fun k hk h2 => e (h.ne i j v u k hv hu h2 hk)
  ne a b u t k hu ht h1 h2 := by
    rw [List.getElem?_set] at hu ht
    by_cases e : i = a
    · subst e
      rw [if_pos rfl, if_pos (List.getElem?_eq_some_iff.1 hv).1] at hu
      cases hu
      have hgk : g = k := by simpa [Value.ownBlock] using h1
      subst hgk
      by_cases e2 : i = b
      · exact e2
      · rw [if_neg e2] at ht
        rcases hg with hg | hg
        · exact absurd (h.ne i b v t g hv ht hg h2) e2
        · have := (h.lt ht h2).2; omega
    · rw [if_neg e] at hu
      by_cases e2 : i = b
      · subst e2
        rw [if_pos rfl, if_pos (List.getElem?_eq_some_iff.1 hv).1] at ht
        cases ht
        have hgk : g = k := by simpa [Value.ownBlock] using h2
        subst hgk
        rcases hg with hg | hg
        · exact absurd (h.ne i a v u g hv hu hg h1) e
        · have := (h.lt hu h1).2; omega
      · rw [if_neg e2] at ht
        exact h.ne a b u t k hu ht h1 h2
end
end Go.Proofs.YtnpeankmmojebaaDoor
