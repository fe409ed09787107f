import Derived.Test.YtcpifanhmkblmaaSiRef8
import Derived.Test.YtcpifanhmkblmaaJAA
import Derived.ProofKit
import Derived.OpenShut
import Derived.ShutString
import Derived.ChangeOld
import Derived.SizedLaws
import Derived.Lib.SmallJoins
import Derived.Deep.Fields
/- Layer 9, plain lists: what is told of notes doesn't hang on their order. -/
namespace Go.Proofs.Ytcpifanhmkblmaa
set_option maxRecDepth 100000
set_option maxRecDepth 100000

theorem cnt_perm {L M : List Nt} (h : L.Perm M) (p : Int × ByteArray) : cntR L p = cntR M p := (h.filter _).length_eq
theorem pair_perm {L M : List Nt} (h : L.Perm M) {p : Int × ByteArray} (hp : PairIs L L p) : PairIs M M p := by
  obtain ⟨n, hn, e⟩ := hp.from_
  refine ⟨⟨n, h.mem_iff.1 hn, e⟩, by rw [← cnt_perm h]; exact hp.two, fun m hm => ?_, fun m hm e => ?_⟩
  · rw [← cnt_perm h, ← cnt_perm h]; exact hp.most m (h.mem_iff.2 hm)
  · rw [← cnt_perm h, ← cnt_perm h] at e; exact hp.least m (h.mem_iff.2 hm) e
theorem coarsest_perm {L M : List Nt} (h : L.Perm M) : coarsestP L = coarsestP M := by
  rcases coarsest_is L with ⟨h1, h2⟩ | ⟨p, h1, hp⟩
  · rcases coarsest_is M with ⟨h3, -⟩ | ⟨q, h3, hq⟩
    · rw [h1, h3]
    · obtain ⟨n, hn, e⟩ := hq.from_
      have h4 := h2 n (h.mem_iff.2 hn)
      have h5 := hq.two
      rw [e, cnt_perm h] at h4
      omega
  · have hp2 := pair_perm h hp
    rcases coarsest_is M with ⟨h3, h4⟩ | ⟨q, h3, hq⟩
    · obtain ⟨n, hn, e⟩ := hp2.from_
      have h5 := h4 n hn
      have h6 := hp2.two
      rw [e] at h5
      omega
    · rw [h1, h3, pair_unique hp2 hq]
theorem coarse_perm {L M : List Nt} (h : L.Perm M) (t : Int) (tb : ByteArray) : (coarseP L t tb).Perm (coarseP M t tb) := (h.filter _).append_right _
theorem shrink_perm {most : Nat} : ∀ (f : Nat) {L M : List Nt}, L.Perm M → (shrinkP most f L = none ∧ shrinkP most f M = none) ∨ ∃ A B, shrinkP most f L = some A ∧ shrinkP most f M = some B ∧ A.Perm B
  | 0, L, M, h => by
    unfold shrinkP
    rw [h.length_eq]
    split
    · exact .inr ⟨L, M, rfl, rfl, h⟩
    · exact .inl ⟨rfl, rfl⟩
  | f + 1, L, M, h => by
    unfold shrinkP
    rw [h.length_eq, coarsest_perm h]
    split
    · exact .inr ⟨L, M, rfl, rfl, h⟩
    · cases coarsestP M with
      | none => exact .inl ⟨rfl, rfl⟩
      | some p => exact shrink_perm f (coarse_perm h _ _)
theorem any_perm {L M : List Nt} (h : L.Perm M) (f : Nt → Bool) : L.any f = M.any f := by
  cases h1 : M.any f with
  | true =>
    obtain ⟨n, hn, hf⟩ := List.any_eq_true.1 h1
    exact List.any_eq_true.2 ⟨n, h.mem_iff.2 hn, hf⟩
  | false =>
    rw [List.any_eq_false] at h1 ⊢
    exact fun n hn => h1 n (h.mem_iff.1 hn)
/-- Note answers alike, and leaves alike. -/
theorem note_perm {most : Nat} {L M : List Nt} (h : L.Perm M) (t : Int) (x : Rd) : (noteP most L t x).1 = (noteP most M t x).1 ∧ (noteP most L t x).2.Perm (noteP most M t x).2 := by
  unfold noteP
  by_cases h1 : t < 1 ∨ mayP x = false
  · rw [if_pos h1, if_pos h1]; exact ⟨rfl, h⟩
  · rw [if_neg h1, if_neg h1, any_perm h, h.length_eq]
    split
    · exact ⟨rfl, h⟩
    · rcases shrink_perm (most := most) (M.length + 1) (show (addP L t x).Perm (addP M t x) from (h.filter _).append_right _) with ⟨e1, e2⟩ | ⟨A, B, e1, e2, hp⟩
      · rw [e1, e2]; exact ⟨rfl, h⟩
      · rw [e1, e2]; exact ⟨rfl, hp⟩
theorem drop_perm {L M : List Nt} (h : L.Perm M) (t : Int) : (dropP L t).Perm (dropP M t) := h.filter _
/-- A list that rises strictly, of just the transactions that are asked for, is what Readers and Txns answer. -/
theorem tx_unique {L : List Nt} {f : Nt → Bool} {m : List Int} (h : m.Pairwise (ltN · · = true)) (hm : ∀ y, y ∈ m ↔ ∃ n ∈ L, f n = true ∧ n.1 = y) : m = txP L f :=
  rise_unique h fun y => by
    rw [hm]
    simp only [List.mem_map, List.mem_filter]
    constructor
    · rintro ⟨n, h1, h2, h3⟩; exact ⟨n, ⟨h1, h2⟩, h3⟩
    · rintro ⟨n, ⟨h1, h2⟩, h3⟩; exact ⟨n, h1, h2, h3⟩
theorem tx_is (L : List Nt) (f : Nt → Bool) : (txP L f).Pairwise (ltN · · = true) ∧ ∀ y, y ∈ txP L f ↔ ∃ n ∈ L, f n = true ∧ n.1 = y := by
  refine ⟨(rise_is _).1, fun y => ?_⟩
  unfold txP
  rw [(rise_is _).2]
  simp only [List.mem_map, List.mem_filter]
  constructor
  · rintro ⟨n, ⟨h1, h2⟩, h3⟩; exact ⟨n, h1, h2, h3⟩
  · rintro ⟨n, h1, h2, h3⟩; exact ⟨n, ⟨h1, h2⟩, h3⟩
theorem tx_perm {L M : List Nt} (h : L.Perm M) (f : Nt → Bool) : txP L f = txP M f := tx_unique (tx_is L f).1 fun y => by
  rw [(tx_is L f).2]
  constructor
  · rintro ⟨n, hn, e⟩; exact ⟨n, h.mem_iff.1 hn, e⟩
  · rintro ⟨n, hn, e⟩; exact ⟨n, h.mem_iff.2 hn, e⟩
/-- No note is there twice. -/
theorem Lean9.nodup {L : List Nt} (h : Lean9 L) (t : Int) : (hisR L t).Nodup := by
  unfold hisR
  have h2 := (h.filter fun n => decide (n.1 = t))
  rw [List.nodup_iff_pairwise_ne, List.pairwise_map]
  refine (List.Pairwise.imp_of_mem ?_ h2.lean)
  intro a b ha hb hc e
  have ea := (List.mem_filter.1 ha).2
  have eb := (List.mem_filter.1 hb).2
  simp only [decide_eq_true_eq] at ea eb
  have hself := covers_self (h2.may b hb).1
  have := (hc (ea.trans eb.symm)).1
  rw [e, hself] at this
  cases this
theorem of_is {L : List Nt} (h : Lean9 L) (t : Int) : (ofP L t).Pairwise (aheadP · · = true) ∧ ∀ y, y ∈ ofP L t ↔ (t, y) ∈ L := by
  have key : ∀ (l out : List Rd), out.Pairwise (aheadP · · = true) → l.Nodup → (∀ y ∈ l, y ∉ out) → (l.foldl insR out).Pairwise (aheadP · · = true) ∧ ∀ y, y ∈ l.foldl insR out ↔ y ∈ out ∨ y ∈ l := by
    intro l
    induction l with
    | nil => intro out h1 _ _; exact ⟨h1, by simp⟩
    | cons x l ih =>
      intro out h1 h2 h3
      obtain ⟨n1, n2⟩ := List.nodup_cons.1 h2
      have hx : ∀ y ∈ out, y ≠ x := fun y hy e => h3 x (by simp) (e ▸ hy)
      have i1 : (insR out x).Pairwise (aheadP · · = true) := ins_strict (lt := aheadP) ahead_tr ahead_tri h1 hx
      have i2 : ∀ y, y ∈ insR out x ↔ y ∈ out ∨ y = x := fun y => ins_mem out x y _
      obtain ⟨j1, j2⟩ := ih _ i1 n2 fun y hy hy2 => by
        rcases (i2 y).1 hy2 with e | e
        · exact h3 y (List.mem_cons_of_mem _ hy) e
        · exact n1 (e ▸ hy)
      refine ⟨j1, fun y => ?_⟩
      rw [List.foldl_cons, j2, i2, List.mem_cons, or_assoc]
  obtain ⟨h1, h2⟩ := key (hisR L t) [] List.Pairwise.nil (h.nodup t) (by simp)
  refine ⟨h1, fun y => ?_⟩
  unfold ofP
  rw [h2]
  unfold hisR
  simp only [List.mem_map, List.mem_filter, List.not_mem_nil, false_or]
  constructor
  · rintro ⟨n, ⟨h3, h4⟩, rfl⟩
    have : n.1 = t := by simpa using h4
    rw [← this]; exact h3
  · intro h3; exact ⟨(t, y), ⟨h3, by simp⟩, rfl⟩
/-- A list that stands in order, of just a transaction's notes, is what Of answers. -/
theorem of_unique {L : List Nt} (h : Lean9 L) {t : Int} {m : List Rd} (hp : m.Pairwise (aheadP · · = true)) (hm : ∀ y, y ∈ m ↔ (t, y) ∈ L) : m = ofP L t :=
  strict_ext ahead_irr ahead_asy _ _ hp (of_is h t).1 fun y => (hm y).trans ((of_is h t).2 y).symm
theorem Lean9.perm {L M : List Nt} (h : Lean9 L) (hp : L.Perm M) : Lean9 M := by
  refine ⟨fun n hn => h.may n (hp.mem_iff.2 hn), ?_⟩
  exact h.lean.perm hp fun {a b} hab e => ⟨(hab e.symm).2, (hab e.symm).1⟩
theorem of_perm {L M : List Nt} (h : Lean9 L) (hp : L.Perm M) (t : Int) : ofP L t = ofP M t :=
  of_unique (h.perm hp) (of_is h t).1 fun y => ((of_is h t).2 y).trans hp.mem_iff
end Go.Proofs.Ytcpifanhmkblmaa

/- How the arguments of a law are opened: bytes, texts, numbers, and what their sizes are. No program is named here. -/
namespace Go.Proofs.Ytcpifanhmkblmaa
set_option maxRecDepth 100000
open Go.Joins Go.Deep Go.ChangeShapes Go.WideShapes Go.ChangeAt Go.RowKit

section
variable {H : Type} {enc : TypeId × Value → H} {P : Program} {w : World} {held : Bool}

theorem wf_i64 {a : Int} (h : (Lit.int .i64 a).wf = true) : -9223372036854775808 ≤ a ∧ a ≤ 9223372036854775807 := by
  simpa [Lit.wf, IntKind.min, IntKind.max, IntKind.bits, IntKind.signed] using h
theorem wf_u64 {a : Int} (h : (Lit.int .u64 a).wf = true) : 0 ≤ a ∧ a ≤ 18446744073709551615 := by
  simpa [Lit.wf, IntKind.min, IntKind.max, IntKind.bits, IntKind.signed] using h
theorem wf_u32 {a : Int} (h : (Lit.int .u32 a).wf = true) : 0 ≤ a ∧ a ≤ 4294967295 := by
  simpa [Lit.wf, IntKind.min, IntKind.max, IntKind.bits, IntKind.signed] using h
theorem wf_u8 {a : Int} (h : (Lit.int .u8 a).wf = true) : 0 ≤ a ∧ a ≤ 255 := by
  simpa [Lit.wf, IntKind.min, IntKind.max, IntKind.bits, IntKind.signed] using h

theorem open_bytes {t e : TypeId} {fuel : Nat} {v : Value} {y : DataW H × List MemPlace} (ht : P.underlying t = some (.slice e)) (he : P.underlying e = some (.int .u8)) (hc : P.cellsOf e = 1)
    (h : DataW.trod enc P w 0 (fun _ => true) held fuel t [v] = some y) :
    ∃ A len cap zs, v = .slice A len cap ∧ RB w A len zs ∧ len ≤ cap ∧ cap ≤ maxLen ∧
      ((y.1 = .nil ∧ cap = 0) ∨ ∃ elems rest, y.1 = .slice elems rest ∧ elems.length + rest.length = cap) := by
  rcases open_ints ht he hc h with ⟨hcs, hy⟩ | ⟨x, l, c, zs, hcs, _, hl, hm, hz, hy, hcell, hwz⟩
  · obtain rfl : v = .slice none 0 0 := by simpa using hcs
    exact ⟨none, 0, 0, [], rfl, RB.empty w _, Nat.le_refl _, by simp [maxLen], .inl ⟨by rw [hy], rfl⟩⟩
  · obtain rfl : v = .slice (some x) l c := by simpa using hcs
    have hz' : zs.length = c := by simpa using hz
    refine ⟨some x, l, c, zs.take l, rfl, ⟨by simp; omega, fun z hzz => ?_, fun _ => ⟨x, rfl, fun j hj => ?_⟩⟩, hl, hm, .inr ⟨_, _, by rw [hy], ?_⟩⟩
    · exact wf_u8 (hwz z (List.mem_of_mem_take hzz))
    · rw [hcell j (by omega)]
      simp [List.getD_eq_getElem?_getD, hj]
    · simp [lits]; omega

/-- A struct of one-cell fields, by value: its fields' values, and each field's reading. -/
theorem open_struct {r : Reach} {b0 : Nat} {t : TypeId} {fs : Array Field} {v : Value} {d : DataW H} {p : List MemPlace} (hs : P.underlying t = some (.struct fs)) (hone : oneCellFields P fs = true) (hC : P.cellsOf t = fs.size)
    (hv : Value.okWide P w r b0 t v) (h : DataW.Trod enc P w 0 (fun _ => true) held t v d p) :
    ∃ (vs : List Value) (ys : List (DataW H × List MemPlace)) (n : Nat), v = .agg vs.toArray ∧ vs.length = fs.size ∧ ys.length = fs.size ∧ d = .agg (ys.map (·.1)) ∧
      ∀ (j : Nat) (f : Field), fs[j]? = some f → DataW.trod enc P w 0 (fun _ => true) held n f.type [vs.getD j undef] = some (ys.getD j (.nil, [])) := by
  obtain ⟨cs, rfl, hsz⟩ := okWide_struct hs hv
  obtain ⟨fuel, hf⟩ := h
  obtain ⟨xs, n, _, hx, hcl, hlen, hg⟩ := DataW.trod_struct hs hf
  have hcl' : cs.toList.length = fs.size := by simpa [Value.cells] using hcl.trans hC
  refine ⟨cs.toList, xs, n, rfl, hcl', hlen, by rw [Prod.mk.injEq] at hx; exact hx.1, fun j f hj => ?_⟩
  obtain ⟨ho, hk⟩ := hone_of hone j f hj
  have hjl : j < fs.size := (Array.getElem?_eq_some_iff.1 hj).1
  have h1 := hg j f hj
  rw [ho, hk] at h1
  have e1 : ((Value.cells (.agg cs)).toList.drop j).take 1 = [cs.toList.getD j undef] := by
    show (cs.toList.drop j).take 1 = _
    rw [List.drop_eq_getElem_cons (by omega)]
    simp [List.getD_eq_getElem?_getD, List.getElem?_eq_getElem (show j < cs.toList.length by omega)]
  rw [e1] at h1
  rw [h1, List.getD_eq_getElem?_getD, List.getElem?_eq_getElem (show j < xs.length by omega)]
  rfl

/-- What a reading weighs is within the reach. -/
def Light (P : Program) (t : TypeId) (d : DataW H) : Prop := ∀ n ∈ d.weights P t, n ≤ reachBytes

theorem light_each {ts : List TypeId} {ds : List (DataW H)} (h : (DataW.weightsEach P ts ds).all (· ≤ reachBytes) = true) {j : Nat} {t : TypeId} {d : DataW H} (ht : ts[j]? = some t) (hd : ds[j]? = some d) : Light P t d :=
  fun n hn => by
    have := List.all_eq_true.1 h n (DataW.weights_mem_each ht hd n hn)
    simpa using this

theorem light_field {t : TypeId} {fs : Array Field} {parts : List (DataW H)} (hs : P.underlying t = some (.struct fs)) (h : Light P t (.agg parts)) {j : Nat} {t' : TypeId} {d : DataW H}
    (ht : (fs.toList.map (·.type))[j]? = some t') (hd : parts[j]? = some d) : Light P t' d :=
  fun n hn => h n (by simp only [DataW.weights, hs]; exact DataW.weights_mem_each ht hd n hn)

theorem light_bytes {t e : TypeId} {d : DataW H} {cap : Nat} (ht : P.underlying t = some (.slice e)) (hb : P.bytesOf e = 1) (h : Light P t d)
    (hd : (d = .nil ∧ cap = 0) ∨ ∃ elems rest, d = .slice elems rest ∧ elems.length + rest.length = cap) : cap ≤ 140737488351232 := by
  rcases hd with ⟨_, rfl⟩ | ⟨elems, rest, rfl, hc⟩
  · omega
  · have := h ((elems.length + rest.length) * P.bytesOf e) (by simp [DataW.weights, ht])
    rw [hb, hc] at this
    simpa [reachBytes] using this

theorem light_string {t : TypeId} {l : List UInt8} (h : Light (H := H) P t (.lit (.string l))) : l.length ≤ 140737488351232 := by
  have := h l.length (by simp [DataW.weights])
  simpa [reachBytes] using this
end

theorem open_str {H : Type} {enc : TypeId × Value → H} {P : Program} {w : World} {held : Bool} {t : TypeId} {fuel : Nat} {v : Value} {y : DataW H × List MemPlace} (ht : P.underlying t = some .string)
    (h : DataW.trod enc P w 0 (fun _ => true) held fuel t [v] = some y) : ∃ s : ByteArray, v = .string s ∧ y.1 = .lit (.string s.data.toList) := by
  obtain ⟨s, h1, h2, _⟩ := DataW.trod_string ht h
  exact ⟨s, by simpa using h1, by rw [h2]⟩
theorem open_num {H : Type} {enc : TypeId × Value → H} {P : Program} {w : World} {held : Bool} {t : TypeId} {k : IntKind} {fuel : Nat} {v : Value} {y : DataW H × List MemPlace} (ht : P.underlying t = some (.int k))
    (h : DataW.trod enc P w 0 (fun _ => true) held fuel t [v] = some y) : ∃ a, v = .int k a ∧ (Lit.int k a).wf = true := by
  obtain ⟨a, h1, h2, h3⟩ := DataW.trod_int ht h
  exact ⟨a, by simpa using h1, h3⟩
theorem open_bit {H : Type} {enc : TypeId × Value → H} {P : Program} {w : World} {held : Bool} {t : TypeId} {fuel : Nat} {v : Value} {y : DataW H × List MemPlace} (ht : P.underlying t = some .bool)
    (h : DataW.trod enc P w 0 (fun _ => true) held fuel t [v] = some y) : ∃ a, v = .bool a := by
  obtain ⟨a, h1, h2⟩ := DataW.trod_bool ht h
  exact ⟨a, by simpa using h1⟩

end Go.Proofs.Ytcpifanhmkblmaa
