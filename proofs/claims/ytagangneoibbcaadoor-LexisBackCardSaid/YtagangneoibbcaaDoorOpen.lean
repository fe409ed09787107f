/- How the arguments of a law are opened: bytes, texts, numbers, and what their sizes are. No program is named here. -/
import Derived.Test.YtagangneoibbcaaDoorMem
import Derived.ProofKit
import Derived.OpenShut
import Derived.ShutString
import Derived.ChangeOld
import Derived.SizedLaws
import Derived.Lib.SmallJoins
import Derived.Deep.Fields
set_option linter.unusedVariables false
namespace Go.Proofs.YtagangneoibbcaaDoor
open Go.Joins Go.Deep Go.ChangeShapes Go.WideShapes Go.ChangeAt Go.RowKit

section
variable {H : Type} {enc : TypeId × Value → H} {P : Program} {w : World} {held : Bool}

theorem wf_i64 {a : Int} (h : (Lit.int .i64 a).wf = true) : -9223372036854775808 ≤ a ∧ a ≤ 9223372036854775807 := by
  simpa [Lit.wf, IntKind.min, IntKind.max, IntKind.bits, IntKind.signed] using h
theorem wf_u64 {a : Int} (h : (Lit.int .u64 a).wf = true) : 0 ≤ a ∧ a ≤ 18446744073709551615 := by
  simpa [Lit.wf, IntKind.min, IntKind.max, IntKind.bits, IntKind.signed] using h
theorem wf_u32 {a : Int} (h : (Lit.int .u32 a).wf = true) : 0 ≤ a ∧ a ≤ 4294967295 := by
  simpa [Lit.wf, IntKind.min, IntKind.max, IntKind.bits, IntKind.signed] using h
theorem wf_u8 {a : Int} (h : (Lit.int .u8 a).wf = true) : 0 ≤ a ∧ a ≤ 255 := by
  simpa [Lit.wf, IntKind.min, IntKind.max, IntKind.bits, IntKind.signed] using h

theorem open_bytes {t e : TypeId} {fuel : Nat} {v : Value} {y : DataW H × List MemPlace} (ht : P.underlying t = some (.slice e)) (he : P.underlying e = some (.int .u8)) (hc : P.cellsOf e = 1)
    (h : DataW.trod enc P w 0 (fun _ => true) held fuel t [v] = some y) :
    ∃ A len cap zs, v = .slice A len cap ∧ RB w A len zs ∧ len ≤ cap ∧ cap ≤ maxLen ∧
      ((y.1 = .nil ∧ cap = 0) ∨ ∃ elems rest, y.1 = .slice elems rest ∧ elems.length + rest.length = cap) := by
  rcases open_ints ht he hc h with ⟨hcs, hy⟩ | ⟨x, l, c, zs, hcs, _, hl, hm, hz, hy, hcell, hwz⟩
  · obtain rfl : v = .slice none 0 0 := by simpa using hcs
    exact ⟨none, 0, 0, [], rfl, RB.empty w _, Nat.le_refl _, by simp [maxLen], .inl ⟨by rw [hy], rfl⟩⟩
  · obtain rfl : v = .slice (some x) l c := by simpa using hcs
    have hz' : zs.length = c := by simpa using hz
    refine ⟨some x, l, c, zs.take l, rfl, ⟨by simp; omega, fun z hzz => ?_, fun _ => ⟨x, rfl, fun j hj => ?_⟩⟩, hl, hm, .inr ⟨_, _, by rw [hy], ?_⟩⟩
    · exact wf_u8 (hwz z (List.mem_of_mem_take hzz))
    · rw [hcell j (by omega)]
      simp [List.getD_eq_getElem?_getD, hj]
    · simp [lits]; omega

/-- A struct of one-cell fields, by value: its fields' values, and each field's reading. -/
theorem open_struct {r : Reach} {b0 : Nat} {t : TypeId} {fs : Array Field} {v : Value} {d : DataW H} {p : List MemPlace} (hs : P.underlying t = some (.struct fs)) (hone : oneCellFields P fs = true) (hC : P.cellsOf t = fs.size)
    (hv : Value.okWide P w r b0 t v) (h : DataW.Trod enc P w 0 (fun _ => true) held t v d p) :
    ∃ (vs : List Value) (ys : List (DataW H × List MemPlace)) (n : Nat), v = .agg vs.toArray ∧ vs.length = fs.size ∧ ys.length = fs.size ∧ d = .agg (ys.map (·.1)) ∧
      ∀ (j : Nat) (f : Field), fs[j]? = some f → DataW.trod enc P w 0 (fun _ => true) held n f.type [vs.getD j undef] = some (ys.getD j (.nil, [])) := by
  obtain ⟨cs, rfl, hsz⟩ := okWide_struct hs hv
  obtain ⟨fuel, hf⟩ := h
  obtain ⟨xs, n, _, hx, hcl, hlen, hg⟩ := DataW.trod_struct hs hf
  have hcl' : cs.toList.length = fs.size := by simpa [Value.cells] using hcl.trans hC
  refine ⟨cs.toList, xs, n, rfl, hcl', hlen, by rw [Prod.mk.injEq] at hx; exact hx.1, fun j f hj => ?_⟩
  obtain ⟨ho, hk⟩ := hone_of hone j f hj
  have hjl : j < fs.size := (Array.getElem?_eq_some_iff.1 hj).1
  have h1 := hg j f hj
  rw [ho, hk] at h1
  have e1 : ((Value.cells (.agg cs)).toList.drop j).take 1 = [cs.toList.getD j undef] := by
    show (cs.toList.drop j).take 1 = _
    rw [List.drop_eq_getElem_cons (by omega)]
    simp [List.getD_eq_getElem?_getD, List.getElem?_eq_getElem (show j < cs.toList.length by omega)]
  rw [e1] at h1
  rw [h1, List.getD_eq_getElem?_getD, List.getElem?_eq_getElem (show j < xs.length by omega)]
  rfl

/-- What a reading weighs is within the reach. -/
def Light (P : Program) (t : TypeId) (d : DataW H) : Prop := ∀ n ∈ d.weights P t, n ≤ reachBytes

theorem light_each {ts : List TypeId} {ds : List (DataW H)} (h : (DataW.weightsEach P ts ds).all (· ≤ reachBytes) = true) {j : Nat} {t : TypeId} {d : DataW H} (ht : ts[j]? = some t) (hd : ds[j]? = some d) : Light P t d :=
  fun n hn => by
    have := List.all_eq_true.1 h n (DataW.weights_mem_each ht hd n hn)
    simpa using this

theorem light_field {t : TypeId} {fs : Array Field} {parts : List (DataW H)} (hs : P.underlying t = some (.struct fs)) (h : Light P t (.agg parts)) {j : Nat} {t' : TypeId} {d : DataW H}
    (ht : (fs.toList.map (·.type))[j]? = some t') (hd : parts[j]? = some d) : Light P t' d :=
  fun n hn => h n (by simp only [DataW.weights, hs]; exact DataW.weights_mem_each ht hd n hn)

theorem light_bytes {t e : TypeId} {d : DataW H} {cap : Nat} (ht : P.underlying t = some (.slice e)) (hb : P.bytesOf e = 1) (h : Light P t d)
    (hd : (d = .nil ∧ cap = 0) ∨ ∃ elems rest, d = .slice elems rest ∧ elems.length + rest.length = cap) : cap ≤ 140737488351232 := by
  rcases hd with ⟨_, rfl⟩ | ⟨elems, rest, rfl, hc⟩
  · omega
  · have := h ((elems.length + rest.length) * P.bytesOf e) (by simp [DataW.weights, ht])
    rw [hb, hc] at this
    simpa [reachBytes] using this

theorem light_string {t : TypeId} {l : List UInt8} (h : Light (H := H) P t (.lit (.string l))) : l.length ≤ 140737488351232 := by
  have := h l.length (by simp [DataW.weights])
  simpa [reachBytes] using this
end

theorem open_str {H : Type} {enc : TypeId × Value → H} {P : Program} {w : World} {held : Bool} {t : TypeId} {fuel : Nat} {v : Value} {y : DataW H × List MemPlace} (ht : P.underlying t = some .string)
    (h : DataW.trod enc P w 0 (fun _ => true) held fuel t [v] = some y) : ∃ s : ByteArray, v = .string s ∧ y.1 = .lit (.string s.data.toList) := by
  obtain ⟨s, h1, h2, _⟩ := DataW.trod_string ht h
  exact ⟨s, by simpa using h1, by rw [h2]⟩
theorem open_num {H : Type} {enc : TypeId × Value → H} {P : Program} {w : World} {held : Bool} {t : TypeId} {k : IntKind} {fuel : Nat} {v : Value} {y : DataW H × List MemPlace} (ht : P.underlying t = some (.int k))
    (h : DataW.trod enc P w 0 (fun _ => true) held fuel t [v] = some y) : ∃ a, v = .int k a ∧ (Lit.int k a).wf = true := by
  obtain ⟨a, h1, h2, h3⟩ := DataW.trod_int ht h
  exact ⟨a, by simpa using h1, h3⟩
theorem open_bit {H : Type} {enc : TypeId × Value → H} {P : Program} {w : World} {held : Bool} {t : TypeId} {fuel : Nat} {v : Value} {y : DataW H × List MemPlace} (ht : P.underlying t = some .bool)
    (h : DataW.trod enc P w 0 (fun _ => true) held fuel t [v] = some y) : ∃ a, v = .bool a := by
  obtain ⟨a, h1, h2⟩ := DataW.trod_bool ht h
  exact ⟨a, by simpa using h1⟩

end Go.Proofs.YtagangneoibbcaaDoor
