/- What Nodes hands back is written over: what stays. -/
import Derived.Test.YtlhpoliiojekeaaNodesX
import Derived.Test.YtlhpoliiojekeaaLook
import Derived.Laws.OwnMore
namespace Go.Proofs.Ytlhpoliiojekeaa
set_option maxRecDepth 100000
open Go.RowKit

theorem VO.xtb {E : El} {base U : Nat} {w w' : World} {v : Value} {vs : List Value} (h : VO E base w v vs) (hx : Xt U w w') (hU : v.ownBlock ≠ some U) : VO E base w' v vs := by
  refine ⟨⟨h.own.1, ?_⟩, h.one⟩
  rcases h.own.2 with h0 | ⟨g, cap, cur, hv, hg, hh, r⟩
  · exact .inl h0
  · refine .inr ⟨g, cap, cur, hv, hg, (hx.block g (Array.getElem?_eq_some_iff.1 hh).1 (fun e' => hU (by rw [hv, ← e']; rfl))).trans hh, r⟩
theorem own_xt {base size n U : Nat} {e : TypeId} {w w' : World} {v : Value} {xs : List Value} (h : w.ownsRow base e size v n xs) (hx : Xt U w w') {cs : Array Value} {e' : TypeId} {fr : Nat × Nat} (hU : w.heap[U]? = some (.cells cs e' fr)) (he : e' ≠ e) : w'.ownsRow base e size v n xs := by
  refine ⟨h.1, ?_⟩
  rcases h.2 with h0 | ⟨g, cap, cur, hv, hg, hh, r⟩
  · exact .inl h0
  · refine .inr ⟨g, cap, cur, hv, hg, (hx.block g (Array.getElem?_eq_some_iff.1 hh).1 (fun e'' => ?_)).trans hh, r⟩
    rw [e'', hU] at hh
    simp only [Option.some.injEq, Obj.cells.injEq] at hh
    exact he hh.2.1
theorem VO.set {E : El} {base g m c : Nat} {w : World} {vs : List Value} (h : VO E base w (.slice (some ⟨g, 0, none⟩) m c) vs) (hm : vs.length = m) (j : Nat) (u : Value) (hu : u.oneCell' = true) :
    VO E base (w.setCell ⟨g, j, none⟩ u) (.slice (some ⟨g, 0, none⟩) m c) (vs.set j u) := by
  refine ⟨?_, fun z hz => ?_⟩
  · have h1 := h.own
    rw [hm] at h1
    rw [List.length_set, hm]
    exact (h1.stored j u).1
  · rcases List.mem_or_eq_of_mem_set hz with h2 | h2
    · exact h.one z h2
    · rw [h2]; exact hu
/-- append of one value onto a list of numbers. -/
theorem vz_append {w : World} {ops : Array Oper} {rest : List Oper} {o : Oper} {a : Act} {Q : Exit → Act → World → Prop} (hgd : o.guard = none) (s x : Operand)
    (ho : o.op = .call { callee := .builtin .append, args := #[s, x], argTypes := #[60, 60] })
    (base : Nat) (v : Value) (vs : List Value) (hs : a.eval s = v) (hown : VO elK base w v vs) (b : Nat) (u : Value) (hu : u.oneCell' = true) (hx : a.eval x = .slice (some ⟨b, 0, none⟩) 1 1) (hr : w.cell? ⟨b, 0, none⟩ = some u)
    (hsz : vs.length ≤ 1000000) (hbase : base ≤ w.heap.size)
    (h : ∀ v' w', VO elK base w' v' (vs ++ [u]) → Below base w w' → w.grownBy w' v.ownBlock → wpList Try.prog ops Q rest (a.put o.dst v') w') : wpList Try.prog ops Q (o :: rest) a w := by
  obtain ⟨i0, hi, hz0, hz1, hz2⟩ := info_parts okK.info
  have hrow : ∀ k, v.ownBlock = some k → base ≤ k := fun k hk => (hown.lt k hk).1
  refine wpList_append_own w hgd s x elK.t ho base elK.e i0 elK.z 1 elK.b okK.und hi hz0 hz1 hz2 rfl (by decide) v vs.length _ hs hown.own ⟨b, 0, none⟩ 1 1 [u] hx rfl ?_ (by simpa using hu)
    (by simp only [maxLen]; omega) (by simp only [elK]; omega) hbase ?_
  · intro j y hj
    rcases j with _ | j
    · cases hj; exact hr
    · simp at hj
  · intro v' w' hown' hg _
    refine h v' w' ⟨?_, fun z hz => ?_⟩ (below_of_grown hg hbase hrow) hg
    · rw [List.length_append]; exact hown'
    · rcases List.mem_append.1 hz with hz | hz
      · exact hown.one z hz
      · simp only [List.mem_singleton] at hz; rw [hz]; exact hu
theorem VO.slice {E : El} {base : Nat} {w : World} {v : Value} {vs : List Value} (h : VO E base w v vs) : ∃ A l c, v = .slice A l c := by
  rcases h.own.2 with ⟨e, _⟩ | ⟨_, _, _, e, _⟩
  · exact ⟨_, _, _, e⟩
  · exact ⟨_, _, _, e⟩
/-- What is left to write over: keys from the node ik on, kids from iz on. -/
structure OI (w1 wr : World) (A : Option Addr) (n c : Nat) (L : List Tt) (ik iz : Nat) : Prop where
  own : ∃ cs, wr.ownsRow w1.heap.size 62 3 (.slice A n c) n cs ∧ (∀ j x, ik ≤ j → L[j]? = some x → cs[3 * j + 1]? = some x.kv) ∧ (∀ j x, iz ≤ j → L[j]? = some x → cs[3 * j + 2]? = some x.zv)
  ks : ∀ j x, ik ≤ j → L[j]? = some x → ∃ vs, vs.length = x.t.ks.length ∧ VO elS w1.heap.size wr x.kv vs
  zs : ∀ j x, iz ≤ j → L[j]? = some x → ∃ vs, vs.length = x.t.kids.length ∧ VO elK w1.heap.size wr x.zv vs
  gw : Gw w1 wr
section
variable {w1 wr : World} {A : Option Addr} {n c : Nat} {L : List Tt} {ik iz : Nat}
theorem OI.start (h : TO w1.heap.size wr (.slice A n c) L) (hn : L.length = n) (g : Gw w1 wr) : OI w1 wr A n c L 0 0 := by
  have ho := h.own
  rw [hn] at ho
  exact ⟨⟨_, ho, fun j x _ hx => (cellsT_at L j x hx).2.1, fun j x _ hx => (cellsT_at L j x hx).2.2⟩, fun j x _ hx => ⟨_, List.length_map .., (h.is x (List.mem_of_getElem? hx)).1⟩, fun j x _ hx => ⟨_, by simp [intsV], (h.is x (List.mem_of_getElem? hx)).2⟩, g⟩
theorem OI.kv (h : OI w1 wr A n c L ik iz) {j : Nat} {x : Tt} (hj : ik ≤ j) (hx : L[j]? = some x) : ∃ g, A = some ⟨g, 0, none⟩ ∧ wr.cell? ⟨g, j * 3 + 1, none⟩ = some x.kv ∧ wr.frozen? ⟨g, j * 3 + 1, none⟩ = false ∧ w1.heap.size ≤ g := by
  obtain ⟨cs, ho, hk, -⟩ := h.own
  have hc := hk j x hj hx
  have hl := (List.getElem?_eq_some_iff.1 hc).1
  have h1 := ho.1
  obtain ⟨g, cap, e, hg⟩ := ho.form (by omega)
  injection e with e1 e2 e3
  subst e1
  refine ⟨g, rfl, ?_, ho.frozenAt _, ?_⟩
  · rw [ho.cellAt _ (by omega), Nat.mul_comm j 3]; exact hc
  · exact (ho.lt g rfl).1
theorem OI.zv (h : OI w1 wr A n c L ik iz) {j : Nat} {x : Tt} (hj : iz ≤ j) (hx : L[j]? = some x) : ∃ g, A = some ⟨g, 0, none⟩ ∧ wr.cell? ⟨g, j * 3 + 2, none⟩ = some x.zv ∧ wr.frozen? ⟨g, j * 3 + 2, none⟩ = false ∧ w1.heap.size ≤ g := by
  obtain ⟨cs, ho, -, hk⟩ := h.own
  have hc := hk j x hj hx
  have hl := (List.getElem?_eq_some_iff.1 hc).1
  have h1 := ho.1
  obtain ⟨g, cap, e, hg⟩ := ho.form (by omega)
  injection e with e1 e2 e3
  subst e1
  refine ⟨g, rfl, ?_, ho.frozenAt _, ?_⟩
  · rw [ho.cellAt _ (by omega), Nat.mul_comm j 3]; exact hc
  · exact (ho.lt g rfl).1
theorem OI.cellAny {g : Nat} (h : OI w1 wr (some ⟨g, 0, none⟩) n c L ik iz) {f : Nat} (hf : f < n * 3) : ∃ u, wr.cell? ⟨g, f, none⟩ = some u ∧ wr.frozen? ⟨g, f, none⟩ = false := by
  obtain ⟨cs, ho, -, -⟩ := h.own
  have h1 := ho.1
  exact ⟨cs[f]'(by omega), by rw [ho.cellAt f hf, List.getElem?_eq_getElem], ho.frozenAt f⟩
theorem sep_at {L : List Tt} (hs : L.Pairwise SepT) {i j : Nat} {x y : Tt} (hij : i < j) (hx : L[i]? = some x) (hy : L[j]? = some y) : SepT x y := by
  obtain ⟨h1, rfl⟩ := List.getElem?_eq_some_iff.1 hx
  obtain ⟨h2, rfl⟩ := List.getElem?_eq_some_iff.1 hy
  exact List.pairwise_iff_getElem.1 hs i j h1 h2 hij
theorem SepV.symm {u v : Value} (h : SepV u v) : SepV v u := fun k h1 h2 => h k h2 h1
/-- A key is written over. -/
theorem OI.setK (hs : L.Pairwise SepT) (h : OI w1 wr A n c L ik iz) {i : Nat} {x : Tt} (hi : ik ≤ i) (hx : L[i]? = some x) {g m ck : Nat} (hv : x.kv = .slice (some ⟨g, 0, none⟩) m ck) (hm : x.t.ks.length = m) (k : Nat) (u : Value) (hu : u.oneCell' = true) : OI w1 (wr.setCell ⟨g, k, none⟩ u) A n c L ik iz := by
  have xt : Xt g wr (wr.setCell ⟨g, k, none⟩ u) := Xt.set (Gw.refl _) k u
  obtain ⟨vs, hvs, ho⟩ := h.ks i x hi hx
  have hlt := ho.lt g (by rw [hv]; rfl)
  obtain ⟨cs, e, hrow, hty⟩ : ∃ cs e, wr.heap[g]? = some (.cells cs e (0, 0)) ∧ e = 9 := by
    rcases ho.own.2 with ⟨e, -⟩ | ⟨g', cap, cur, e, -, hh, -⟩
    · rw [hv] at e; cases e
    · rw [hv] at e; injection e with e1 e2 e3; injection e1 with e1; injection e1 with e1; exact ⟨cur, _, by rw [e1]; exact hh, rfl⟩
  subst hty
  obtain ⟨cs', hown, q1, q2⟩ := h.own
  refine ⟨⟨cs', own_xt hown xt hrow (by decide), q1, q2⟩, fun j y hj hy => ?_, fun j y hj hy => ?_, Xt.below h.gw xt hlt.1⟩
  · obtain ⟨us, hus, hoy⟩ := h.ks j y hj hy
    by_cases hij : j = i
    · subst hij
      rw [hx] at hy; cases hy
      rw [hv] at ho ⊢
      exact ⟨_, by rw [List.length_set]; exact hvs, ho.set (by rw [hvs]; exact hm) k u hu⟩
    · refine ⟨us, hus, hoy.xtb xt fun e => ?_⟩
      rcases Nat.lt_or_ge j i with h1 | h1
      · exact (sep_at hs h1 hy hx).1 g e (by rw [hv]; rfl)
      · exact (sep_at hs (show i < j by omega) hx hy).1 g (by rw [hv]; rfl) e
  · obtain ⟨us, hus, hoy⟩ := h.zs j y hj hy
    exact ⟨us, hus, hoy.xt xt hrow (by decide)⟩
/-- A kid is written over. -/
theorem OI.setZ (hs : L.Pairwise SepT) (h : OI w1 wr A n c L ik iz) {i : Nat} {x : Tt} (hi : iz ≤ i) (hx : L[i]? = some x) {g m ck : Nat} (hv : x.zv = .slice (some ⟨g, 0, none⟩) m ck) (hm : x.t.kids.length = m) (k : Nat) (u : Value) (hu : u.oneCell' = true) : OI w1 (wr.setCell ⟨g, k, none⟩ u) A n c L ik iz := by
  have xt : Xt g wr (wr.setCell ⟨g, k, none⟩ u) := Xt.set (Gw.refl _) k u
  obtain ⟨vs, hvs, ho⟩ := h.zs i x hi hx
  have hlt := ho.lt g (by rw [hv]; rfl)
  obtain ⟨cs, e, hrow, hty⟩ : ∃ cs e, wr.heap[g]? = some (.cells cs e (0, 0)) ∧ e = 3 := by
    rcases ho.own.2 with ⟨e, -⟩ | ⟨g', cap, cur, e, -, hh, -⟩
    · rw [hv] at e; cases e
    · rw [hv] at e; injection e with e1 e2 e3; injection e1 with e1; injection e1 with e1; exact ⟨cur, _, by rw [e1]; exact hh, rfl⟩
  subst hty
  obtain ⟨cs', hown, q1, q2⟩ := h.own
  refine ⟨⟨cs', own_xt hown xt hrow (by decide), q1, q2⟩, fun j y hj hy => ?_, fun j y hj hy => ?_, Xt.below h.gw xt hlt.1⟩
  · obtain ⟨us, hus, hoy⟩ := h.ks j y hj hy
    exact ⟨us, hus, hoy.xt xt hrow (by decide)⟩
  · obtain ⟨us, hus, hoy⟩ := h.zs j y hj hy
    by_cases hij : j = i
    · subst hij
      rw [hx] at hy; cases hy
      rw [hv] at ho ⊢
      exact ⟨_, by rw [List.length_set]; exact hvs, ho.set (by rw [hvs]; exact hm) k u hu⟩
    · refine ⟨us, hus, hoy.xtb xt fun e => ?_⟩
      rcases Nat.lt_or_ge j i with h1 | h1
      · exact (sep_at hs h1 hy hx).2 g e (by rw [hv]; rfl)
      · exact (sep_at hs (show i < j by omega) hx hy).2 g (by rw [hv]; rfl) e
theorem OI.gwE (h : OI w1 wr A n c L ik iz) {w' : World} (g : Gw wr w') : OI w1 w' A n c L ik iz := by
  obtain ⟨cs', hown, q1, q2⟩ := h.own
  refine ⟨⟨cs', ?_, q1, q2⟩, fun j y hj hy => ?_, fun j y hj hy => ?_, h.gw.trans g⟩
  · refine hown.kept (row := none) ⟨Below.os g, Below.tape g, Below.output g, Below.size g, fun k hk _ => Below.block g k hk⟩ ?_
    cases hv : (Value.slice A n c).ownBlock <;> simp
  · obtain ⟨us, hus, hoy⟩ := h.ks j y hj hy
    exact ⟨us, hus, hoy.gw g⟩
  · obtain ⟨us, hus, hoy⟩ := h.zs j y hj hy
    exact ⟨us, hus, hoy.gw g⟩
/-- Behind an append to the keys of node i. -/
theorem OI.appK (hs : L.Pairwise SepT) (h : OI w1 wr A n c L ik iz) {i : Nat} {x : Tt} (hi : ik ≤ i) (hx : L[i]? = some x) {w' : World} (hb : Below w1.heap.size wr w') (g : wr.grownBy w' x.kv.ownBlock) : OI w1 w' A n c L (i + 1) iz := by
  obtain ⟨vs, hvs, ho⟩ := h.ks i x hi hx
  obtain ⟨cs', hown, q1, q2⟩ := h.own
  refine ⟨⟨cs', own_kept ho.own g hown (by decide), fun j y hj hy => q1 j y (by omega) hy, q2⟩, fun j y hj hy => ?_, fun j y hj hy => ?_, Below.trans h.gw hb⟩
  · obtain ⟨us, hus, hoy⟩ := h.ks j y (by omega) hy
    have hsp := (sep_at hs (show i < j by omega) hx hy).1
    refine ⟨us, hus, hoy.own.kept g ?_, hoy.one⟩
    cases hv : y.kv.ownBlock with
    | none => exact .inl rfl
    | some b => exact .inr fun e => hsp b e.symm hv
  · obtain ⟨us, hus, hoy⟩ := h.zs j y hj hy
    exact ⟨us, hus, own_kept ho.own g hoy.own (by decide), hoy.one⟩
/-- Behind an append to the kids of node i. -/
theorem OI.appZ (hs : L.Pairwise SepT) (h : OI w1 wr A n c L ik iz) {i : Nat} {x : Tt} (hi : iz ≤ i) (hx : L[i]? = some x) {w' : World} (hb : Below w1.heap.size wr w') (g : wr.grownBy w' x.zv.ownBlock) : OI w1 w' A n c L ik (i + 1) := by
  obtain ⟨vs, hvs, ho⟩ := h.zs i x hi hx
  obtain ⟨cs', hown, q1, q2⟩ := h.own
  refine ⟨⟨cs', own_kept ho.own g hown (by decide), q1, fun j y hj hy => q2 j y (by omega) hy⟩, fun j y hj hy => ?_, fun j y hj hy => ?_, Below.trans h.gw hb⟩
  · obtain ⟨us, hus, hoy⟩ := h.ks j y hj hy
    exact ⟨us, hus, own_kept ho.own g hoy.own (by decide), hoy.one⟩
  · obtain ⟨us, hus, hoy⟩ := h.zs j y (by omega) hy
    have hsp := (sep_at hs (show i < j by omega) hx hy).2
    refine ⟨us, hus, hoy.own.kept g ?_, hoy.one⟩
    cases hv : y.zv.ownBlock with
    | none => exact .inl rfl
    | some b => exact .inr fun e => hsp b e.symm hv
/-- A slice is stored into node i, whose keys and kids are done with as told. -/
theorem OI.put {g : Nat} (h : OI w1 wr (some ⟨g, 0, none⟩) n c L ik iz) (hn : 0 < n) (f : Nat) (hk : ∀ j, ik ≤ j → 3 * j + 1 ≠ f) (hz : ∀ j, iz ≤ j → 3 * j + 2 ≠ f) (u : Value) : OI w1 (wr.setCell ⟨g, f, none⟩ u) (some ⟨g, 0, none⟩) n c L ik iz := by
  obtain ⟨cs', hown, q1, q2⟩ := h.own
  have hg := hown.lt g rfl
  have xt : Xt g wr (wr.setCell ⟨g, f, none⟩ u) := Xt.set (Gw.refl _) f u
  obtain ⟨cs, hrow⟩ : ∃ cs, wr.heap[g]? = some (.cells cs 62 (0, 0)) := by
    rcases hown.2 with ⟨e, -⟩ | ⟨g', cap, cur, e, -, hh, -⟩
    · cases e
    · injection e with e1 e2 e3; injection e1 with e1; injection e1 with e1; exact ⟨cur, by rw [e1]; exact hh⟩
  refine ⟨⟨_, (hown.stored f u).1, fun j y hj hy => ?_, fun j y hj hy => ?_⟩, fun j y hj hy => ?_, fun j y hj hy => ?_, Xt.below h.gw xt hg.1⟩
  · rw [List.getElem?_set_ne (by have := hk j hj; omega)]; exact q1 j y hj hy
  · rw [List.getElem?_set_ne (by have := hz j hj; omega)]; exact q2 j y hj hy
  · obtain ⟨us, hus, hoy⟩ := h.ks j y hj hy
    exact ⟨us, hus, hoy.xt xt hrow (by decide)⟩
  · obtain ⟨us, hus, hoy⟩ := h.zs j y hj hy
    exact ⟨us, hus, hoy.xt xt hrow (by decide)⟩
end
/-- What Nodes hands back, with its rows. -/
theorem NodesIsX.own {w w' : World} {T ord : Nat} {ps : List Pr} {e : Ending} (h : NodesIsX w ord ps e w') (ht : TreeAt w T ord ps) (hp : ps.length ≤ 1048576) :
    ∃ A n c L, e = .returned (.slice A n c) ∧ L.length = n ∧ n ≤ 4000000 ∧ OI w w' A n c L 0 0 ∧ L.Pairwise SepT ∧ (∀ x ∈ L, x.t.ks.length ≤ 990 ∧ x.t.kids.length ≤ 990) ∧
      ∃ D : Nat, ∀ X B m e', Gw w' X → PB X B m ps → Calls Try.prog 23 #[.slice A n c, .int .i64 (ord : Nat), .slice B m e'] X fun e X' => e = .returned (.tuple #[.bool true, .int .i64 (D : Nat)]) ∧ Gw X X' := by
  obtain ⟨v, L, R, root, rfl, hTO, hlen, hI, hps, hmm, hb, hsep⟩ := h
  obtain ⟨A, n, c, D, he, -, hn4, -, -, -, -, -, hF⟩ := NodesIs.look ⟨v, L, R, root, rfl, hTO, hlen, hI, hps, hmm, hb⟩ ht hp
  obtain ⟨A', c', rfl, -, -⟩ := hTO.form
  injection he with he
  injection he with e1 e2 e3
  subst e1 e2 e3
  refine ⟨A', L.length, c', L, rfl, rfl, hn4, OI.start hTO rfl hb, hsep, fun x hx => ?_, D, hF⟩
  obtain ⟨j, hj, rfl⟩ := List.mem_iff_getElem.1 hx
  obtain ⟨y, hy⟩ : ∃ y, R[j]? = some y := ⟨_, List.getElem?_eq_getElem (by omega)⟩
  have h1 := hI.told j y (L[j]).t hy (by rw [List.getElem?_map, List.getElem?_eq_getElem hj]; rfl)
  have h2 := (hI.node y (List.mem_of_getElem? hy)).2.1
  obtain ⟨d, k⟩ := y
  rcases d with _ | d
  · obtain ⟨h3, h4⟩ := h1
    rw [h3]
    simp only at h2 h4 ⊢
    rw [keys_len]
    exact ⟨by omega, by simp⟩
  · obtain ⟨ks, kids, h3, h4, h5, -⟩ := h1
    rw [h3]
    simp only at h2 h5 ⊢
    rw [List.length_range']
    exact ⟨by omega, by omega⟩
end Go.Proofs.Ytlhpoliiojekeaa
