/- Layer 11: maps whose keys are numbers (int) or versions (an item and a number). -/
import Derived.Test.YtbmgeobmmpaghaaGreatDoorSMap
import Derived.Test.YtbmgeobmmpaghaaGreatDoorSeP
set_option linter.unusedVariables false
namespace Go.Proofs.YtbmgeobmmpaghaaGreatDoor
set_option maxRecDepth 100000
set_option maxRecDepth 100000
open Go.RowKit Go.Maps Go.ChangeMaps Go.MapKept

/-- Numbers of type int as keys. -/
def KN : KT Int 3 where
  enc := .int .i64
  lit := .int .i64
  ok x := (Lit.int .i64 x).wf = true
  law := int_keyed Tryz.underlying3
  key {x} h := by simp [keyOf, Tryz.underlying3, mapKey, h]
  inv {v kl} h := by
    obtain ⟨x, h1, h2, h3⟩ := Maps.keyOf_int_inv Tryz.underlying3 h
    exact ⟨x, h1, h3, h2⟩
  inj _ _ h := by simpa using h
  eni h := by simpa using h
  isk _ := trivial
/-- Texts as keys. -/
def KT11 : KT ByteArray 9 where
  enc := .string
  lit s := .string s.data.toList
  ok s := s.size ≤ maxLen
  law := string_keyed Tryz.underlying9
  key {x} h := by simp [keyOf, Tryz.underlying9, mapKey, h]
  inv {v kl} h := by
    cases v <;> simp [keyOf, Tryz.underlying9, mapKey] at h
    exact ⟨_, rfl, h.1, h.2.symm⟩
  inj {a b} _ _ h := by
    obtain ⟨a⟩ := a
    obtain ⟨b⟩ := b
    simp only [Lit.string.injEq] at h
    exact congrArg ByteArray.mk (Array.toList_inj.1 h)
  eni h := by simpa using h
  isk _ := trivial
/-- A version: an item and who wrote it. -/
abbrev Vr := ByteArray × Int
def vrV (l : Vr) : Value := .agg #[.string l.1, .int .i64 l.2]
def vrLit (l : Vr) : Lit := .string (keyBytes [.string l.1.data.toList, .int .i64 l.2])
def SzV (l : Vr) : Prop := l.1.size ≤ maxLen ∧ (Lit.int .i64 l.2).wf = true
theorem keyOf_vr {l : Vr} (h : SzV l) : keyOf Tryz.prog 87 (vrV l) = some (vrLit l) := by
  have hs : Tryz.prog.underlying 87 = some (.struct (Tryz.prog.fieldsOf 87)) := by kernel_rfl
  have hk : Tryz.prog.keyType 87 = true := by kernel_rfl
  have hc : Tryz.prog.cellsOf 87 = 2 := by kernel_rfl
  have hc1 : Tryz.prog.cellsOf 9 = 1 := by kernel_rfl
  have hc2 : Tryz.prog.cellsOf 3 = 1 := by kernel_rfl
  have hn : (Tryz.prog.fieldsOf 87).all (·.name != "_") = true := by kernel_rfl
  have hf : (Tryz.prog.fieldsOf 87).toList.map (fun f => (f.type, f.offset)) = [(9, 0), (3, 1)] := by kernel_rfl
  obtain ⟨n, hsz⟩ : ∃ n, Tryz.prog.types.size = n + 1 := ⟨Tryz.prog.types.size - 1, by have : 0 < Tryz.prog.types.size := of_decide_eq_true (by kernel_rfl); omega⟩
  have hw : (vrV l).formed Tryz.prog 87 = true := by simp [vrV, Value.formed, hs, hc]
  have hl : Tryz.prog.keyLits (Tryz.prog.types.size + 1) 87 (vrV l).cells.toList = some [.string l.1.data.toList, .int .i64 l.2] := by
    rw [hsz]
    unfold Program.keyLits
    rw [hs]
    simp only [vrV, Value.cells, List.length_cons, List.length_nil, hc, hn]
    generalize (Tryz.prog.fieldsOf 87).toList = fs at hf
    obtain ⟨f, fs1, rfl, hf1, hf⟩ := List.map_eq_cons_iff.1 hf
    obtain ⟨g, fs2, rfl, hg1, hf⟩ := List.map_eq_cons_iff.1 hf
    have : fs2 = [] := by simpa using hf
    subst this
    simp only [Prod.mk.injEq] at hf1 hg1
    obtain ⟨f2, f3⟩ := hf1
    obtain ⟨g2, g3⟩ := hg1
    have k1 : ∀ s : ByteArray, s.size ≤ maxLen → Tryz.prog.keyLits (n + 1) 9 [.string s] = some [.string s.data.toList] := fun s h => by
      unfold Program.keyLits
      rw [Tryz.underlying9]
      simp [h]
    have k2 : ∀ x : Int, (Lit.int .i64 x).wf = true → Tryz.prog.keyLits (n + 1) 3 [.int .i64 x] = some [.int .i64 x] := fun x h => by
      unfold Program.keyLits
      rw [Tryz.underlying3]
      simp [h]
    simp [f2, f3, g2, g3, hc1, hc2, k1 _ h.1, k2 _ h.2]
  unfold keyOf
  rw [hs]
  simp only [hk, hw, hl, Bool.and_self, if_true, Option.map_some]
  rfl
theorem lawVr : Keyed Tryz.prog 87 := Keyed.of_law (deep_law_laid (by kernel_rfl) (m := 3) (by omega) (of_decide_eq_true (by kernel_rfl)) (by kernel_rfl) (by kernel_rfl))
theorem vrV_inj {a b : Vr} (h : vrV a = vrV b) : a = b := by
  unfold vrV at h
  simp only [Value.agg.injEq, Array.mk.injEq, List.cons.injEq, Value.string.injEq, Value.int.injEq, true_and, and_true] at h
  exact Prod.ext h.1 h.2
theorem vrLit_inj {a b : Vr} (ha : SzV a) (hb : SzV b) (h : vrLit a = vrLit b) : a = b := by
  have h1 := keyOf_vr ha
  have h2 := keyOf_vr hb
  rw [h] at h1
  exact vrV_inj (lawVr.inj h1 h2)
theorem keyOf_vr_inv {v : Value} {kl : Lit} (h : keyOf Tryz.prog 87 v = some kl) : ∃ l, v = vrV l ∧ SzV l ∧ kl = vrLit l := by
  have hs : Tryz.prog.underlying 87 = some (.struct (Tryz.prog.fieldsOf 87)) := by kernel_rfl
  have hk : Tryz.prog.keyType 87 = true := by kernel_rfl
  have hc : Tryz.prog.cellsOf 87 = 2 := by kernel_rfl
  have hc1 : Tryz.prog.cellsOf 9 = 1 := by kernel_rfl
  have hc2 : Tryz.prog.cellsOf 3 = 1 := by kernel_rfl
  have hn : (Tryz.prog.fieldsOf 87).all (·.name != "_") = true := by kernel_rfl
  have hf : (Tryz.prog.fieldsOf 87).toList.map (fun f => (f.type, f.offset)) = [(9, 0), (3, 1)] := by kernel_rfl
  obtain ⟨n, hsz⟩ : ∃ n, Tryz.prog.types.size = n + 1 := ⟨Tryz.prog.types.size - 1, by have : 0 < Tryz.prog.types.size := of_decide_eq_true (by kernel_rfl); omega⟩
  have h0 := h
  unfold keyOf at h
  rw [hs] at h
  simp only [hk, Bool.true_and] at h
  split at h
  · rename_i hw
    obtain ⟨c0, c1, rfl⟩ : ∃ c0 c1, v = .agg #[c0, c1] := by
      unfold Value.formed at hw
      rw [hs] at hw
      cases v <;> simp [hc] at hw
      rename_i cs
      obtain ⟨l⟩ := cs
      match l, hw with
      | [a, b], _ => exact ⟨a, b, rfl⟩
    have k1 : ∀ (c : Value) x, Tryz.prog.keyLits (n + 1) 9 [c] = some x → ∃ s : ByteArray, c = .string s ∧ s.size ≤ maxLen := fun c x hx => by
      unfold Program.keyLits at hx
      rw [Tryz.underlying9] at hx
      cases c <;> simp at hx
      exact ⟨_, rfl, hx.1⟩
    have k2 : ∀ (c : Value) x, Tryz.prog.keyLits (n + 1) 3 [c] = some x → ∃ z : Int, c = .int .i64 z ∧ (Lit.int .i64 z).wf = true := fun c x hx => by
      unfold Program.keyLits at hx
      rw [Tryz.underlying3] at hx
      cases c <;> simp at hx
      rename_i q z
      obtain ⟨⟨rfl, h1⟩, -⟩ := hx
      exact ⟨_, rfl, h1⟩
    rw [hsz] at h
    unfold Program.keyLits at h
    rw [hs] at h
    simp only [Value.cells, List.length_cons, List.length_nil, hc, hn] at h
    generalize (Tryz.prog.fieldsOf 87).toList = fs at hf h
    obtain ⟨f, fs1, rfl, hf1, hf⟩ := List.map_eq_cons_iff.1 hf
    obtain ⟨g, fs2, rfl, hg1, hf⟩ := List.map_eq_cons_iff.1 hf
    have : fs2 = [] := by simpa using hf
    subst this
    simp only [Prod.mk.injEq] at hf1 hg1
    obtain ⟨f2, f3⟩ := hf1
    obtain ⟨g2, g3⟩ := hg1
    cases e1 : Tryz.prog.keyLits (n + 1) 9 [c0] with
    | none => simp [f2, f3, g2, g3, hc1, hc2, e1] at h
    | some x0 =>
      cases e2 : Tryz.prog.keyLits (n + 1) 3 [c1] with
      | none => simp [f2, f3, g2, g3, hc1, hc2, e1, e2] at h
      | some x1 =>
        obtain ⟨s0, rfl, z0⟩ := k1 _ _ e1
        obtain ⟨s1, rfl, z1⟩ := k2 _ _ e2
        refine ⟨(s0, s1), rfl, ⟨z0, z1⟩, ?_⟩
        have h1 := keyOf_vr (l := (s0, s1)) ⟨z0, z1⟩
        unfold vrV at h1
        rw [h0] at h1
        exact Option.some.inj h1
  · cases h
/-- Versions as keys. -/
def KV : KT Vr 87 where
  enc := vrV
  lit := vrLit
  ok := SzV
  law := lawVr
  key h := keyOf_vr h
  inv h := keyOf_vr_inv h
  inj ha hb h := vrLit_inj ha hb h
  eni h := vrV_inj h
  isk _ := trivial
theorem zeroI (w : World) : (zeroValue 3).run Tryz.prog w = .ok (.int .i64 0) w := by kernel_rfl
abbrev mapII : TypeId := 63
abbrev mapVI : TypeId := 83
abbrev mapSI : TypeId := 114
theorem mapII_und : Tryz.prog.underlying mapII = some (.map 3 3) := by kernel_rfl
theorem mapVI_und : Tryz.prog.underlying mapVI = some (.map 87 3) := by kernel_rfl
theorem mapSI_und : Tryz.prog.underlying mapSI = some (.map 9 3) := by kernel_rfl
end Go.Proofs.YtbmgeobmmpaghaaGreatDoor
