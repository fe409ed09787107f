/- Layer 8: a map whose keys are locks. -/
import Derived.Test.YtghnafknbgmagaaLkOrd
import Derived.DeepKeys4
import Derived.Maps.OwnSet
import Derived.Maps.Range
namespace Go.Proofs.Ytghnafknbgmagaa
set_option maxRecDepth 100000
set_option maxRecDepth 100000
open Go.RowKit Go.Maps Go.ChangeMaps Go.MapKept

/-- A lock as a map's key reads. -/
def keyLit (l : Lk) : Lit := .string (keyBytes [.string l.1.data.toList, .string l.2.data.toList])
/-- Its texts are no longer than a text can be. -/
def Sz (l : Lk) : Prop := l.1.size ≤ maxLen ∧ l.2.size ≤ maxLen
theorem keyOf_lk {l : Lk} (h : Sz l) : keyOf Try.prog 34 (lkV l) = some (keyLit l) := by
  have hs : Try.prog.underlying 34 = some (.struct (Try.prog.fieldsOf 34)) := by kernel_rfl
  have hk : Try.prog.keyType 34 = true := by kernel_rfl
  have hc : Try.prog.cellsOf 34 = 2 := by kernel_rfl
  have hc1 : Try.prog.cellsOf 9 = 1 := by kernel_rfl
  have hn : (Try.prog.fieldsOf 34).all (·.name != "_") = true := by kernel_rfl
  have hf : (Try.prog.fieldsOf 34).toList.map (fun f => (f.type, f.offset)) = [(9, 0), (9, 1)] := by kernel_rfl
  obtain ⟨n, hsz⟩ : ∃ n, Try.prog.types.size = n + 1 := ⟨Try.prog.types.size - 1, by have : 0 < Try.prog.types.size := of_decide_eq_true (by kernel_rfl); omega⟩
  have hw : (lkV l).formed Try.prog 34 = true := by simp [lkV, Value.formed, hs, hc]
  have hl : Try.prog.keyLits (Try.prog.types.size + 1) 34 (lkV l).cells.toList = some [.string l.1.data.toList, .string l.2.data.toList] := by
    rw [hsz]
    unfold Program.keyLits
    rw [hs]
    simp only [lkV, Value.cells, List.length_cons, List.length_nil, hc, hn]
    generalize (Try.prog.fieldsOf 34).toList = fs at hf
    obtain ⟨f, fs1, rfl, hf1, hf⟩ := List.map_eq_cons_iff.1 hf
    obtain ⟨g, fs2, rfl, hg1, hf⟩ := List.map_eq_cons_iff.1 hf
    have : fs2 = [] := by simpa using hf
    subst this
    simp only [Prod.mk.injEq] at hf1 hg1
    obtain ⟨f2, f3⟩ := hf1
    obtain ⟨g2, g3⟩ := hg1
    have k1 : ∀ s : ByteArray, s.size ≤ maxLen → Try.prog.keyLits (n + 1) 9 [.string s] = some [.string s.data.toList] := fun s h => by
      unfold Program.keyLits
      rw [Try.underlying9]
      simp [h]
    simp [f2, f3, g2, g3, hc1, k1 _ h.1, k1 _ h.2]
  unfold keyOf
  rw [hs]
  simp only [hk, hw, hl, Bool.and_self, if_true, Option.map_some]
  rfl
theorem lawLk : Keyed Try.prog 34 := Keyed.of_law (deep_law_laid (by kernel_rfl) (m := 3) (by omega) (of_decide_eq_true (by kernel_rfl)) (by kernel_rfl) (by kernel_rfl))
theorem keyLit_inj {a b : Lk} (ha : Sz a) (hb : Sz b) (h : keyLit a = keyLit b) : a = b := by
  have h1 := keyOf_lk ha
  have h2 := keyOf_lk hb
  rw [h] at h1
  have := lawLk.inj h1 h2
  unfold lkV at this
  simp only [Value.agg.injEq, Array.mk.injEq, List.cons.injEq, Value.string.injEq, and_true] at this
  exact Prod.ext this.1 this.2
theorem keyLit_is (l : Lk) : WideAt.IsKeyLit (keyLit l) := trivial
end Go.Proofs.Ytghnafknbgmagaa
