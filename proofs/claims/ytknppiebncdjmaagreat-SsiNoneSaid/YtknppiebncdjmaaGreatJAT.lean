import Derived.Test.YtknppiebncdjmaaGreatJAS
import Derived.Test.YtknppiebncdjmaaGreatJAH
import Derived.Deep.Slices
import Derived.Test.YtknppiebncdjmaaGreatSRow
import Derived.Deep.AppendLies
import Derived.Test.YtknppiebncdjmaaGreatJAK
import Derived.Laws.OwnMore
/- Layer 9: arguments of laws: notes, scripts of operations on notes. -/
namespace Go.Proofs.YtknppiebncdjmaaGreat
set_option maxRecDepth 100000
set_option maxRecDepth 100000
open Go.Joins Go.Deep Go.ChangeShapes Go.WideShapes Go.ChangeAt Go.RowKit

/-- An operation of a script. -/
structure OpS where
  kind : Int
  tx : Int
  x : Rd
  key : ByteArray
def OpS.cells (o : OpS) : List Value := [.int .i64 o.kind, .int .i64 o.tx, .string o.x.tb, .int .i64 o.x.kd, .string o.x.lo, .string o.x.hi, .string o.key]
structure RdIs (x : Rd) : Prop where
  rk : -9223372036854775808 ≤ x.kd ∧ x.kd ≤ 9223372036854775807
  lo : x.lo.size ≤ 140737488351232
  tb : x.tb.size ≤ 140737488351232
structure OpSIs (o : OpS) : Prop where
  rk : -9223372036854775808 ≤ o.kind ∧ o.kind ≤ 9223372036854775807
  rt : -9223372036854775808 ≤ o.tx ∧ o.tx ≤ 9223372036854775807
  x : RdIs o.x
  key : o.key.size ≤ 140737488351232
/-- The slice of address A and length n is the script os. -/
structure RS (w : World) (A : Option Addr) (n : Nat) (os : List OpS) : Prop where
  len : os.length = n
  is : ∀ o ∈ os, OpSIs o
  row : 0 < n → ∃ b o, A = some ⟨b, o, none⟩ ∧ ∀ (j : Nat) (x : OpS), os[j]? = some x → w.rangeAt b (o + j * 7) x.cells
theorem rangeAt_belowS {w w' : World} {b o : Nat} {cs : List Value} (h : w.rangeAt b o cs) (hb : Below w.heap.size w w') : w'.rangeAt b o cs := fun j v hv => keep_below (h j v hv) hb
theorem RS.below {w w' : World} {A : Option Addr} {n : Nat} {os : List OpS} (h : RS w A n os) (hb : Below w.heap.size w w') : RS w' A n os :=
  ⟨h.len, h.is, fun hn => by
    obtain ⟨b, o, e, hr⟩ := h.row hn
    exact ⟨b, o, e, fun j x hx => rangeAt_belowS (hr j x hx) hb⟩⟩
theorem RS.at_ {w : World} {A : Option Addr} {n : Nat} {os : List OpS} (h : RS w A n os) {j : Nat} {x : OpS} (hx : os[j]? = some x) : ∃ b o, A = some ⟨b, o, none⟩ ∧ w.cell? ⟨b, o + j * 7, none⟩ = some (.int .i64 x.kind) ∧ w.cell? ⟨b, o + j * 7 + 1, none⟩ = some (.int .i64 x.tx) ∧ w.cell? ⟨b, o + j * 7 + 2, none⟩ = some (.string x.x.tb) ∧ w.cell? ⟨b, o + j * 7 + 3, none⟩ = some (.int .i64 x.x.kd) ∧ w.cell? ⟨b, o + j * 7 + 4, none⟩ = some (.string x.x.lo) ∧ w.cell? ⟨b, o + j * 7 + 5, none⟩ = some (.string x.x.hi) ∧ w.cell? ⟨b, o + j * 7 + 6, none⟩ = some (.string x.key) := by
  obtain ⟨b, o, e, hr⟩ := h.row (by have := (List.getElem?_eq_some_iff.1 hx).1; have := h.len; omega)
  have q := hr j x hx
  exact ⟨b, o, e, q 0 _ rfl, q 1 _ rfl, q 2 _ rfl, q 3 _ rfl, q 4 _ rfl, q 5 _ rfl, q 6 _ rfl⟩
section
variable {H : Type} {enc : TypeId × Value → H} {P : Program} {w : World} {held : Bool}
theorem open_strS {t : TypeId} {fuel : Nat} {v : Value} {y : DataW H × List MemPlace} (ht : P.underlying t = some .string) (hl : Light P t y.1)
    (h : DataW.trod enc P w 0 (fun _ => true) held fuel t [v] = some y) : ∃ s : ByteArray, v = .string s ∧ s.size ≤ 140737488351232 := by
  obtain ⟨s, rfl, h2⟩ := open_str ht h
  rw [h2] at hl
  have h' := light_string hl
  rw [Array.length_toList] at h'
  exact ⟨s, rfl, h'⟩
theorem weightsAll_inS {e : TypeId} {d : DataW H} : ∀ {l : List (DataW H)}, d ∈ l → ∀ n ∈ d.weights P e, n ∈ DataW.weightsAll P e l
  | x :: r, hd, n, hn => by
    rw [DataW.weightsAll, List.mem_append]
    rcases List.mem_cons.1 hd with rfl | hd
    · exact .inl hn
    · exact .inr (weightsAll_inS hd n hn)
theorem light_elemS {t e : TypeId} {elems rest : List (DataW H)} (ht : P.underlying t = some (.slice e)) (h : Light P t (.slice elems rest)) {d : DataW H} (hd : d ∈ elems) : Light P e d :=
  fun n hn => h n (by simp only [DataW.weights, ht, List.mem_cons, List.mem_append]; exact .inr (.inl (weightsAll_inS hd n hn)))
theorem light_sizedS {t e : TypeId} {d : DataW H} {cap b : Nat} (ht : P.underlying t = some (.slice e)) (hb : P.bytesOf e = b) (h : Light P t d)
    (hd : (d = .nil ∧ cap = 0) ∨ ∃ elems rest, d = .slice elems rest ∧ elems.length + rest.length = cap) : cap * b ≤ 140737488351232 := by
  rcases hd with ⟨_, rfl⟩ | ⟨elems, rest, rfl, hc⟩
  · omega
  · have := h ((elems.length + rest.length) * P.bytesOf e) (by simp [DataW.weights, ht])
    rw [hb, hc] at this
    simpa [reachBytes] using this
theorem spot_noneS {w : World} {ad : Addr} {v : Value} (hc : w.cell? ad = some v) : ad.spot = none := by
  unfold World.cell? at hc
  split at hc
  · split at hc
    · cases hc
    · rename_i hh; simpa using hh
  · cases hc
theorem spot_addS {ad : Addr} (h : ad.spot = none) : ∃ b o, ad = ⟨b, o, none⟩ := by
  obtain ⟨b, o, s⟩ := ad
  simp only at h
  subst h
  exact ⟨b, o, rfl⟩
theorem open_laidS {t : TypeId} {fs : Array Field} {m : Nat} {cs : List Value} {y : DataW H × List MemPlace} (hs : P.underlying t = some (.struct fs)) (hone : oneCellFields P fs = true) (hC : P.cellsOf t = fs.size)
    (h : DataW.trod enc P w 0 (fun _ => true) held m t cs = some y) :
    ∃ (ys : List (DataW H × List MemPlace)) (n : Nat), cs.length = fs.size ∧ ys.length = fs.size ∧ y.1 = .agg (ys.map (·.1)) ∧
      ∀ (j : Nat) (f : Field), fs[j]? = some f → DataW.trod enc P w 0 (fun _ => true) held n f.type [cs.getD j undef] = some (ys.getD j (.nil, [])) := by
  obtain ⟨xs, n, _, hx, hcl, hlen, hg⟩ := DataW.trod_struct hs h
  have hcl' : cs.length = fs.size := hcl.trans hC
  refine ⟨xs, n, hcl', hlen, by rw [hx], fun j f hj => ?_⟩
  obtain ⟨ho, hk⟩ := hone_of hone j f hj
  have hjl : j < fs.size := (Array.getElem?_eq_some_iff.1 hj).1
  have h1 := hg j f hj
  rw [ho, hk] at h1
  have e1 : (cs.drop j).take 1 = [cs.getD j undef] := by
    rw [List.drop_eq_getElem_cons (by omega), List.take_succ_cons, List.take_zero]
    simp [List.getD_eq_getElem?_getD, List.getElem?_eq_getElem (show j < cs.length by omega)]
  rw [e1] at h1
  rw [h1, List.getD_eq_getElem?_getD, List.getElem?_eq_getElem (show j < xs.length by omega)]
  rfl
theorem open_wideS {t : TypeId} {fs : Array Field} {m : Nat} {cs : List Value} {y : DataW H × List MemPlace} (hs : P.underlying t = some (.struct fs))
    (h : DataW.trod enc P w 0 (fun _ => true) held m t cs = some y) :
    ∃ (ys : List (DataW H × List MemPlace)) (n : Nat), cs.length = P.cellsOf t ∧ ys.length = fs.size ∧ y.1 = .agg (ys.map (·.1)) ∧
      ∀ (j : Nat) (f : Field), fs[j]? = some f → DataW.trod enc P w 0 (fun _ => true) held n f.type ((cs.drop f.offset).take (P.cellsOf f.type)) = some (ys.getD j (.nil, [])) := by
  obtain ⟨xs, n, _, hx, hcl, hlen, hg⟩ := DataW.trod_struct hs h
  refine ⟨xs, n, hcl, hlen, by rw [hx], fun j f hj => ?_⟩
  have hjl : j < fs.size := (Array.getElem?_eq_some_iff.1 hj).1
  have h1 := hg j f hj
  rw [h1, List.getD_eq_getElem?_getD, List.getElem?_eq_getElem (show j < xs.length by omega)]
  rfl
end
theorem cells_mapMS {w : World} {a : Addr} {n : Nat} {cs : List Value} (h : w.cells? 0 a n = some cs) : cs.length = n ∧ ∀ j, j < n → w.cell? (a.add j) = some (cs.getD j undef) := by
  unfold World.cells? at h
  rw [if_pos (Nat.zero_le _)] at h
  have hlen : cs.length = n := by simpa using Go.mapM_some_length h
  refine ⟨hlen, fun j hj => ?_⟩
  have := Go.mapM_some_get h j j (by simp [hj])
  rw [this, List.getD_eq_getElem?_getD, List.getElem?_eq_getElem (by omega)]
  rfl
instance : Inhabited OpS := ⟨⟨0, 0, default, ⟨#[]⟩⟩⟩
/-- A note as it came in. -/
theorem open_rdS {H : Type} {enc : TypeId × Value → H} {w : World} {held : Bool} {fuel : Nat} {cs : List Value} {y : DataW H × List MemPlace} (h : DataW.trod enc Tryz.prog w 0 (fun _ => true) held fuel 114 cs = some y) (hl : Light Tryz.prog 114 y.1) :
    ∃ x : Rd, RdIs x ∧ cs = rdC x := by
  obtain ⟨zs, k2, hcl, hzl, hD2, hf2⟩ := open_laidS Tryz.underlying114 (by kernel_rfl) (by kernel_rfl) h
  match cs, hcl, zs, hzl with
  | [g0, g1, g2, g3], _, [z0, z1, z2, z3], _ =>
    have s0 : DataW.trod enc Tryz.prog w 0 (fun _ => true) held k2 9 [g0] = some z0 := hf2 0 _ rfl
    have s1 : DataW.trod enc Tryz.prog w 0 (fun _ => true) held k2 3 [g1] = some z1 := hf2 1 _ rfl
    have s2 : DataW.trod enc Tryz.prog w 0 (fun _ => true) held k2 9 [g2] = some z2 := hf2 2 _ rfl
    have s3 : DataW.trod enc Tryz.prog w 0 (fun _ => true) held k2 9 [g3] = some z3 := hf2 3 _ rfl
    rw [hD2] at hl
    have l2 : Light Tryz.prog 9 z2.1 := light_field Tryz.underlying114 hl (j := 2) rfl rfl
    have l0 : Light Tryz.prog 9 z0.1 := light_field Tryz.underlying114 hl (j := 0) rfl rfl
    obtain ⟨a0, rfl, q0⟩ := open_strS Tryz.underlying9 l0 s0
    obtain ⟨a1, rfl, w1⟩ := open_num Tryz.underlying3 s1
    obtain ⟨a2, rfl, q2⟩ := open_strS Tryz.underlying9 l2 s2
    obtain ⟨a3, rfl, -⟩ := open_str Tryz.underlying9 s3
    exact ⟨⟨a0, a1, a2, a3⟩, ⟨wf_i64 w1, q2, q0⟩, rfl⟩
/-- A struct's cells. -/
theorem open_aggS {H : Type} {enc : TypeId × Value → H} {P : Program} {w : World} {held : Bool} {r : Reach} {b0 : Nat} {t : TypeId} {fs : Array Field} {v : Value} {d : DataW H} {p : List MemPlace} (hs : P.underlying t = some (.struct fs))
    (hv : Value.okWide P w r b0 t v) (h : DataW.Trod enc P w 0 (fun _ => true) held t v d p) : ∃ (cs : List Value) (n : Nat), v = .agg cs.toArray ∧ DataW.trod enc P w 0 (fun _ => true) held n t cs = some (d, p) := by
  obtain ⟨cs, rfl, -⟩ := okWide_struct hs hv
  obtain ⟨n, hn⟩ := h
  exact ⟨cs.toList, n, rfl, hn⟩
end Go.Proofs.YtknppiebncdjmaaGreat

/- append to a list that the call made, up to what memory holds. -/
namespace Go.Proofs.YtknppiebncdjmaaGreat
set_option maxRecDepth 100000
set_option maxRecDepth 100000
open Go.RowKit

section
variable {E : SEl} {base n : Nat} {w w' : World} {v : Value} {vs : List Value}
/-- append, whatever stands behind it. -/
theorem wp_soW (hE : E.Ok) {o : Oper} {a : Act} {K : Act → World → Prop} {Q : Exit → Act → World → Prop} (s x : Operand)
    (ho : o.op = .call { callee := .builtin .append, args := #[s, x], argTypes := #[E.t, E.t] })
    (v : Value) (hs : a.eval s = v) (hown : SO E base w v n vs) (A : Option Addr) (m c : Nat) (us : List Value) (hx : a.eval x = .slice A m c) (hr : SB w A (E.s * m) us)
    (hsz : (n + m) * E.b ≤ 140737488355328) (h63 : n + m ≤ maxLen) (hbase : base ≤ w.heap.size)
    (h : ∀ v' w', SO E base w' v' (n + m) (vs ++ us) → Below base w w' → K (a.put o.dst v') w') : o.wp Tryz.prog a w K Q := by
  obtain ⟨i0, hi, hz0, hz1, hz2⟩ := info_parts hE.info
  have hrow : ∀ k, v.ownBlock = some k → base ≤ k := fun k hk => (hown.own.lt k hk).1
  have hs0 := hE.s0
  rcases A with _ | ad
  · have hm : m = 0 := by
      rcases Nat.eq_zero_or_pos m with h0 | h0
      · exact h0
      · obtain ⟨g, q, e, -⟩ := hr.cell (Nat.mul_pos hs0 h0)
        cases e
    subst hm
    have hy : us = [] := List.eq_nil_of_length_eq_zero (by rw [hr.len]; simp)
    subst hy
    have hrun := run_append_nothing w E.t o.type i0 hE.und hi hown.own c
    unfold Oper.wp
    simp [execOp, ho, resolve, invoke, builtin, hs, hx, hrun, Result.andThen]
    exact h v w (by simpa using hown) (Below.refl _ _)
  · have hcell : ∀ j u, us[j]? = some u → w.cell? (ad.add j) = some u := by
      rcases Nat.eq_zero_or_pos m with h0 | h0
      · intro j u hj
        have hy : us = [] := List.eq_nil_of_length_eq_zero (by rw [hr.len, h0]; simp)
        subst hy
        simp at hj
      · obtain ⟨g, q, e, hcell⟩ := hr.addr (Nat.mul_pos hs0 h0)
        cases e
        exact hcell
    refine wp_append_own w s x E.t ho base E.e i0 E.z E.s E.b hE.und hi hz0 hz1 hz2 hE.zc hs0 v n vs hs hown.own ad m c us hx (by rw [hr.len, Nat.mul_comm]) hcell hr.one h63 hsz hbase ?_
    · intro v' w' hown' hg _
      exact h v' w' ⟨hown', by rw [List.length_append, hown.len, hr.len, ← Nat.mul_add], fun u hu => by
        rcases List.mem_append.1 hu with h1 | h1
        · exact hown.one u h1
        · exact hr.one u h1⟩ (below_of_grown8 (w1 := w) hg hbase hrow)
/-- append in a list of operations. -/
theorem so_appendW (hE : E.Ok) {ops : Array Oper} {rest : List Oper} {o : Oper} {a : Act} {Q : Exit → Act → World → Prop} (hgd : o.guard = none) (s x : Operand)
    (ho : o.op = .call { callee := .builtin .append, args := #[s, x], argTypes := #[E.t, E.t] })
    (v : Value) (hs : a.eval s = v) (hown : SO E base w v n vs) (A : Option Addr) (m c : Nat) (us : List Value) (hx : a.eval x = .slice A m c) (hr : SB w A (E.s * m) us)
    (hsz : (n + m) * E.b ≤ 140737488355328) (h63 : n + m ≤ maxLen) (hbase : base ≤ w.heap.size)
    (h : ∀ v' w', SO E base w' v' (n + m) (vs ++ us) → Below base w w' → wpList Tryz.prog ops Q rest (a.put o.dst v') w') : wpList Tryz.prog ops Q (o :: rest) a w :=
  wpList_plain hgd fun _ hK => wp_soW hE s x ho v hs hown A m c us hx hr hsz h63 hbase fun v' w' h1 h2 => hK _ _ (h v' w' h1 h2)
end
section
variable {E : SEl} {base n : Nat} {w : World} {v : Value} {vs : List Value}
/-- append of one element, and where the list then lies. -/
theorem so_appendL (hE : E.Ok) {ops : Array Oper} {rest : List Oper} {o : Oper} {a : Act} {Q : Exit → Act → World → Prop} (hgd : o.guard = none) (s x : Operand)
    (ho : o.op = .call { callee := .builtin .append, args := #[s, x], argTypes := #[E.t, E.t] })
    (v : Value) (hs : a.eval s = v) (hown : SO E base w v n vs) (b c : Nat) (us : List Value) (hx : a.eval x = .slice (some ⟨b, 0, none⟩) 1 c) (hr : SB w (some ⟨b, 0, none⟩) (E.s * 1) us)
    (hsz : (n + 1) * E.b ≤ 140737488355328) (h63 : n + 1 ≤ maxLen) (hbase : base ≤ w.heap.size)
    (h : ∀ g cap w', SO E base w' (.slice (some ⟨g, 0, none⟩) (n + 1) cap) (n + 1) (vs ++ us) → w.grownBy w' v.ownBlock → (v.ownBlock = some g ∨ g = w.heap.size) → wpList Tryz.prog ops Q rest (a.put o.dst (.slice (some ⟨g, 0, none⟩) (n + 1) cap)) w') : wpList Tryz.prog ops Q (o :: rest) a w := by
  obtain ⟨i0, hi, hz0, hz1, hz2⟩ := info_parts hE.info
  have hs0 := hE.s0
  refine wpList_append_lies (P := Tryz.prog) w hgd s x E.t ho base E.e i0 E.z E.s E.b hE.und hi hz0 hz1 hz2 hE.zc hs0 v n vs hs hown.own ⟨b, 0, none⟩ 1 c us hx (by rw [hr.len, Nat.mul_comm]) ?_ hr.one (by omega) h63 hsz hbase _ rfl ?_
  · obtain ⟨g, q, e, hcell⟩ := hr.addr (Nat.mul_pos hs0 (by omega))
    cases e
    exact hcell
  · intro g cap w' hown' hg hl _
    exact h g cap w' ⟨hown', by rw [List.length_append, hown.len, hr.len, ← Nat.mul_add], fun u hu => by
      rcases List.mem_append.1 hu with h1 | h1
      · exact hown.one u h1
      · exact hr.one u h1⟩ hg hl
end
section
variable {E : SEl} {base n : Nat} {w : World} {v : Value} {vs : List Value}
/-- The same as a step of a region that draws its order. -/
theorem so_stepL (hE : E.Ok) {ops : Array Oper} {o : Oper} {a : Act} {K : Act → World → Prop} {Q : Exit → Act → World → Prop} {Z : Prop} (hgd : o.guard = none) (s x : Operand)
    (ho : o.op = .call { callee := .builtin .append, args := #[s, x], argTypes := #[E.t, E.t] })
    (v : Value) (hs : a.eval s = v) (hown : SO E base w v n vs) (b c : Nat) (us : List Value) (hx : a.eval x = .slice (some ⟨b, 0, none⟩) 1 c) (hr : SB w (some ⟨b, 0, none⟩) (E.s * 1) us)
    (hsz : (n + 1) * E.b ≤ 140737488355328) (h63 : n + 1 ≤ maxLen) (hbase : base ≤ w.heap.size)
    (h : ∀ g cap w', SO E base w' (.slice (some ⟨g, 0, none⟩) (n + 1) cap) (n + 1) (vs ++ us) → w.grownBy w' v.ownBlock → (v.ownBlock = some g ∨ g = w.heap.size) → K (a.put o.dst (.slice (some ⟨g, 0, none⟩) (n + 1) cap)) w') : if Region.wanted o (yielded ops a.tmps) = true then Oper.wp Tryz.prog o a w K Q else Z := by
  obtain ⟨i0, hi, hz0, hz1, hz2⟩ := info_parts hE.info
  have hs0 := hE.s0
  refine step_append_lies (P := Tryz.prog) w hgd s x E.t ho base E.e i0 E.z E.s E.b hE.und hi hz0 hz1 hz2 hE.zc hs0 v n vs hs hown.own ⟨b, 0, none⟩ 1 c us hx (by rw [hr.len, Nat.mul_comm]) ?_ hr.one (by omega) h63 hsz hbase _ rfl ?_
  · obtain ⟨g, q, e, hcell⟩ := hr.addr (Nat.mul_pos hs0 (by omega))
    cases e
    exact hcell
  · intro g cap w' hown' hg hl _
    exact h g cap w' ⟨hown', by rw [List.length_append, hown.len, hr.len, ← Nat.mul_add], fun u hu => by
      rcases List.mem_append.1 hu with h1 | h1
      · exact hown.one u h1
      · exact hr.one u h1⟩ hg hl
end
end Go.Proofs.YtknppiebncdjmaaGreat

/- Layer 9: lists of operations that the law makes; without. -/
namespace Go.Proofs.YtknppiebncdjmaaGreat
set_option maxRecDepth 100000
set_option maxRecDepth 100000
open Go.RowKit

def cellsO (L : List OpS) : List Value := L.flatMap OpS.cells
theorem cellsO_len (L : List OpS) : (cellsO L).length = 7 * L.length := by
  induction L with
  | nil => rfl
  | cons p ps ih => simp only [cellsO, List.flatMap_cons, List.length_append, List.length_cons] at ih ⊢; rw [ih]; show 7 + _ = _; omega
theorem cellsO_cons (p : OpS) (ps : List OpS) : cellsO (p :: ps) = p.cells ++ cellsO ps := by simp [cellsO]
theorem cellsO_app (a b : List OpS) : cellsO (a ++ b) = cellsO a ++ cellsO b := by simp [cellsO]
theorem cellsO_one (ps : List OpS) : ∀ u ∈ cellsO ps, u.oneCell' = true := by
  intro u hu
  simp only [cellsO, List.mem_flatMap] at hu
  obtain ⟨p, -, hu⟩ := hu
  simp [OpS.cells] at hu
  rcases hu with rfl | rfl | rfl | rfl | rfl | rfl | rfl <;> rfl
theorem cellsO_at : ∀ (ps : List OpS) (j : Nat) (p : OpS), ps[j]? = some p → ∀ (k : Nat) u, p.cells[k]? = some u → (cellsO ps)[7 * j + k]? = some u
  | [], _, _, h, _, _, _ => by cases h
  | q :: ps, 0, p, h, k, u, hu => by
    cases h
    have hk : k < q.cells.length := (List.getElem?_eq_some_iff.1 hu).1
    rw [cellsO_cons, Nat.mul_zero, Nat.zero_add, List.getElem?_append_left hk]; exact hu
  | q :: ps, j + 1, p, h, k, u, hu => by
    have := cellsO_at ps j p h k u hu
    rw [cellsO_cons, List.getElem?_append_right (by show 7 ≤ _; omega)]
    rw [show 7 * (j + 1) + k - q.cells.length = 7 * j + k by show 7 * (j + 1) + k - 7 = _; omega]
    exact this
/-- The j-th of a list of operations. -/
theorem SB.op {w : World} {A : Option Addr} {L : List OpS} (h : SB w A (7 * L.length) (cellsO L)) {j : Nat} {x : OpS} (hp : L[j]? = some x) : ∃ b o, A = some ⟨b, o, none⟩ ∧ w.cell? ⟨b, o + j * 7, none⟩ = some (.int .i64 x.kind) ∧ w.cell? ⟨b, o + j * 7 + 1, none⟩ = some (.int .i64 x.tx) ∧ w.cell? ⟨b, o + j * 7 + 2, none⟩ = some (.string x.x.tb) ∧ w.cell? ⟨b, o + j * 7 + 3, none⟩ = some (.int .i64 x.x.kd) ∧ w.cell? ⟨b, o + j * 7 + 4, none⟩ = some (.string x.x.lo) ∧ w.cell? ⟨b, o + j * 7 + 5, none⟩ = some (.string x.x.hi) ∧ w.cell? ⟨b, o + j * 7 + 6, none⟩ = some (.string x.key) := by
  have hlt := (List.getElem?_eq_some_iff.1 hp).1
  obtain ⟨g, o, e, hc⟩ := h.cell (by omega)
  have q := fun k u hu => hc _ u (cellsO_at L j x hp k u hu)
  rw [Nat.mul_comm] at q
  simp only [← Nat.add_assoc] at q
  exact ⟨g, o, e, q 0 _ rfl, q 1 _ rfl, q 2 _ rfl, q 3 _ rfl, q 4 _ rfl, q 5 _ rfl, q 6 _ rfl⟩
def notTx (t : Int) (x : OpS) : Bool := !decide (x.tx = t)
theorem filter_takeO {L : List OpS} {f : OpS → Bool} {j : Nat} {p : OpS} (hp : L[j]? = some p) : (L.take (j + 1)).filter f = (L.take j).filter f ++ (if f p = true then [p] else []) := by
  rw [List.take_add_one, hp, Option.toList_some, List.filter_append]
  congr 1
  by_cases h : f p = true
  · rw [if_pos h]; simp [h]
  · rw [if_neg h]; simp [h]
theorem filter_takeO_le (L : List OpS) (f : OpS → Bool) (j : Nat) : ((L.take j).filter f).length ≤ j := by
  have h1 := List.length_filter_le f (L.take j)
  have h2 := List.length_take_le j L
  omega
end Go.Proofs.YtknppiebncdjmaaGreat

/- Layer 9: the reference's New. -/
namespace Go.Proofs.YtknppiebncdjmaaGreat
set_option maxRecDepth 100000
set_option maxRecDepth 100000
open Go.RowKit

/-- May there be such a cap? -/
def capP (m : Int) : Bool := decide (1 ≤ m) && decide (m ≤ 65536)
set_option maxHeartbeats 2000000 in
theorem wrNew9 (w : World) (m : Int) :
    Calls Tryz.prog 38 #[.int .i64 m] w fun e w' => e = .returned (.tuple #[.agg #[.int .i64 m, .slice none 0 0], .bool (capP m)]) ∧ Below w.heap.size w w' := by
  have HB := Lib.hid (show Below w.heap.size w (w.alloc (.cells #[.int .i64 m, .slice none 0 0] 32)) from (Below.refl _ _).alloc (Nat.le_refl _) _)
  by_cases i1 : 1 ≤ m
  · by_cases i2 : m ≤ 65536
    · have HE := Lib.hid (show capP m = true by simp [capP, i1, i2])
      go_enter Tryz.func38, Tryz.ntmps38
      go_wp2
      refine bodyPost_ret (v := .tuple #[.agg #[.int .i64 m, .slice none 0 0], .bool true]) (by simp [results, Tryz.results38, go_sem]) rfl ⟨by rw [HE.out], HB.out⟩
    · have HE := Lib.hid (show capP m = false by simp [capP, i2])
      go_enter Tryz.func38, Tryz.ntmps38
      go_wp2
      refine bodyPost_ret (v := .tuple #[.agg #[.int .i64 m, .slice none 0 0], .bool false]) (by simp [results, Tryz.results38, go_sem]) rfl ⟨by rw [HE.out], HB.out⟩
  · have HE := Lib.hid (show capP m = false by simp [capP, i1])
    go_enter Tryz.func38, Tryz.ntmps38
    go_wp2
    refine bodyPost_ret (v := .tuple #[.agg #[.int .i64 m, .slice none 0 0], .bool false]) (by simp [results, Tryz.results38, go_sem]) rfl ⟨by rw [HE.out], HB.out⟩
end Go.Proofs.YtknppiebncdjmaaGreat

/- Layer 9: the law's inner. -/
namespace Go.Proofs.YtknppiebncdjmaaGreat
set_option maxRecDepth 100000
set_option maxRecDepth 100000
open Go.RowKit

def strC (l : List ByteArray) : List Value := l.map .string
theorem strC_at {l : List ByteArray} {j : Nat} {x : ByteArray} (h : l[j]? = some x) : (strC l)[j]? = some (.string x) := by simp [strC, h]
/-- The keys of a note that the law looks at. -/
def innerP (x : Rd) (k : ByteArray) : List ByteArray := if x.kd = 1 then [x.lo] else if x.kd = 2 then (if !Op.bytesLess k.toList x.lo.toList && ((x.hi.toList == []) || Op.bytesLess k.toList x.hi.toList) then [x.lo, k] else [x.lo]) else [k, ⟨#[]⟩]
/-- The value is a list of texts. -/
def TxtIs (w : World) (v : Value) (l : List ByteArray) : Prop := ∃ A c, v = .slice A l.length c ∧ SB w A l.length (strC l)
theorem TxtIs.gw {w w' : World} {v : Value} {l : List ByteArray} (h : TxtIs w v l) (g : Below w.heap.size w w') : TxtIs w' v l := by
  obtain ⟨A, c, e, hs⟩ := h
  exact ⟨A, c, e, hs.gw g⟩
end Go.Proofs.YtknppiebncdjmaaGreat

/- Layer 9: slices.Equal where both are one; slices.Contains. -/
namespace Go.Proofs.YtknppiebncdjmaaGreat
set_option maxRecDepth 100000
set_option maxRecDepth 100000
open Go.RowKit

theorem neqRd (w : World) (x : Rd) : (binOp .neq 114 (rdV x) (rdV x)).run Tryz.prog w = .ok (.bool false) w := by
  have hs : Tryz.prog.underlying 114 = some (.struct (Tryz.prog.fieldsOf 114)) := by kernel_rfl
  have hp : Tryz.prog.stoodInHeld 114 = false := by kernel_rfl
  have hf : (Tryz.prog.fieldsOf 114).toList.map (fun f => (f.name == "_", f.type, f.offset)) = [(false, 9, 0), (false, 3, 1), (false, 9, 2), (false, 9, 3)] := by kernel_rfl
  have hu := Tryz.underlying9
  have hi := Tryz.underlying3
  unfold rdV
  rw [run_neq_struct, run_equalIn_struct w 9999 _ _ _ hs hp]
  generalize (Tryz.prog.fieldsOf 114).toList = fs at hf
  obtain ⟨f, fs1, rfl, hf1, hf⟩ := List.map_eq_cons_iff.1 hf
  obtain ⟨g, fs2, rfl, hg1, hf⟩ := List.map_eq_cons_iff.1 hf
  obtain ⟨h, fs3, rfl, hh1, hf⟩ := List.map_eq_cons_iff.1 hf
  obtain ⟨k, fs4, rfl, hk1, hf⟩ := List.map_eq_cons_iff.1 hf
  have : fs4 = [] := by simpa using hf
  subst this
  simp only [Prod.mk.injEq] at hf1 hg1 hh1 hk1
  obtain ⟨f1, f2, f3⟩ := hf1
  obtain ⟨g1, g2, g3⟩ := hg1
  obtain ⟨h1, h2, h3⟩ := hh1
  obtain ⟨k1, k2, k3⟩ := hk1
  have f1' : f.name ≠ "_" := by simpa using f1
  have g1' : g.name ≠ "_" := by simpa using g1
  have h1' : h.name ≠ "_" := by simpa using h1
  have k1' : k.name ≠ "_" := by simpa using k1
  simp only [Op.eqFields, f1', g1', h1', k1', f2, f3, g2, g3, h2, h3, k2, k3, ne_eq, not_false_eq_true, if_true, Sem.run_bind]
  have e1 : (part 9 #[Value.string x.tb, .int .i64 x.kd, Value.string x.lo, Value.string x.hi] 0).run Tryz.prog w = .ok (.string x.tb) w := by go_simp
  have e2 : (part 3 #[Value.string x.tb, .int .i64 x.kd, Value.string x.lo, Value.string x.hi] 1).run Tryz.prog w = .ok (.int .i64 x.kd) w := by go_simp
  have e3 : (part 9 #[Value.string x.tb, .int .i64 x.kd, Value.string x.lo, Value.string x.hi] 2).run Tryz.prog w = .ok (.string x.lo) w := by go_simp
  have e4 : (part 9 #[Value.string x.tb, .int .i64 x.kd, Value.string x.lo, Value.string x.hi] 3).run Tryz.prog w = .ok (.string x.hi) w := by go_simp
  simp [e1, e2, e3, e4, Result.andThen_ok, run_equalIn_string w 9998 _ _ _ hu, run_equalIn_int w 9998 _ _ _ _ _ hi]

set_option maxHeartbeats 2000000 in
theorem windexN {w : World} {A : Option Addr} {c1 : Nat} {l : List Int} (h1 : SB w A l.length (numC l)) (hn : l.length ≤ 10000000) (y : Int) :
    Calls Tryz.prog 126 #[.slice A l.length c1, .int .i64 y] w fun e w' => (∃ k : Int, e = .returned (.int .i64 k) ∧ (y ∈ l ∧ 0 ≤ k ∨ y ∉ l ∧ k = -1)) ∧ Below w.heap.size w w' := by
  have H1 := Lib.hid h1
  have HN := Lib.hid hn
  clear h1 hn
  go_enter Tryz.func126, Tryz.ntmps126
  go_wp2
  go_loopw [8] (fun i' wr => ∃ j : Nat, i' = .int .i64 (j : Nat) ∧ j ≤ l.length ∧ y ∉ l.take j ∧ Below w.heap.size w wr) (fun i' _ => l.length - (intOf i').toNat)
  case atStart => exact ⟨0, rfl, Nat.zero_le _, by simp, Below.refl _ _⟩
  case round =>
    rename World => wr
    obtain ⟨j, rfl, hj, hno, hb⟩ := hrel
    by_cases hlt : j < l.length
    · obtain ⟨x, hx⟩ : ∃ x, l[j]? = some x := ⟨_, List.getElem?_eq_getElem hlt⟩
      obtain ⟨g, o, rfl, x0⟩ := (H1.out.gw hb).at_ (numC_at hx)
      have i1 : (j : Int) < (l.length : Int) := by omega
      have l1 : (j : Int) ≤ 10000000 := by have := HN.out; omega
      have HB := Lib.hid hb
      by_cases he : y = x
      · subst he
        have HM := Lib.hid (show y ∈ l from List.mem_of_getElem? hx)
        clear hj hlt hx hb hno
        go_wp2
        go_ret
        exact ⟨⟨_, rfl, .inl ⟨HM.out, by omega⟩⟩, HB.out⟩
      · have he' : (y == x) = false := by simpa using he
        have HNO := Lib.hid (show y ∉ l.take (j + 1) by
          rw [List.take_add_one, hx, Option.toList_some]
          simp only [List.mem_append, List.mem_singleton]
          intro h
          rcases h with h | h
          · exact hno h
          · exact he h)
        have HLT := Lib.hid hlt
        clear hj hlt hx hb hno
        go_wp2
        go_roundw
        case rel => exact ⟨j + 1, by go_num, HLT.out, HNO.out, HB.out⟩
        case measure => have := HLT.out; simp [intOf]; omega
    · have hje : j = l.length := by omega
      subst hje
      have i1 : ¬ (l.length : Int) < (l.length : Int) := by omega
      have HB := Lib.hid hb
      have HNO := Lib.hid (show y ∉ l by rwa [List.take_length] at hno)
      clear hj hlt hb hno
      go_wp2
      go_ret
      exact ⟨⟨_, rfl, .inr ⟨HNO.out, rfl⟩⟩, HB.out⟩

set_option maxHeartbeats 2000000 in
theorem wcontainsN {w : World} {A : Option Addr} {c1 : Nat} {l : List Int} (h1 : SB w A l.length (numC l)) (hn : l.length ≤ 10000000) (y : Int) :
    Calls Tryz.prog 78 #[.slice A l.length c1, .int .i64 y] w fun e w' => e = .returned (.bool (decide (y ∈ l))) ∧ Below w.heap.size w w' := by
  have C := Lib.hid (windexN (c1 := c1) h1 hn y)
  clear h1 hn
  go_enter Tryz.func78, Tryz.ntmps78
  by_cases hy : y ∈ l
  · have HY := Lib.hid (show decide (y ∈ l) = true by simpa using hy)
    go_wp2_with (go_at_call 126; go_loud (refine C.out.mono ?_; rintro e w1 ⟨⟨k, rfl, hk⟩, b1⟩; have HB := Lib.hid b1; clear b1; replace hk : 0 ≤ k := (by rcases hk with h | h; exact h.2; exact absurd hy h.1)))
    go_ret
    exact ⟨by rw [HY.out] <;> rfl, HB.out⟩
  · have HY := Lib.hid (show decide (y ∈ l) = false by simpa using hy)
    go_wp2_with (go_at_call 126; go_loud (refine C.out.mono ?_; rintro e w1 ⟨⟨k, rfl, hk⟩, b1⟩; have HB := Lib.hid b1; clear b1; obtain rfl : k = -1 := (by rcases hk with h | h; exact absurd h.1 hy; exact h.2)))
    go_ret
    exact ⟨by rw [HY.out] <;> rfl, HB.out⟩
end Go.Proofs.YtknppiebncdjmaaGreat
