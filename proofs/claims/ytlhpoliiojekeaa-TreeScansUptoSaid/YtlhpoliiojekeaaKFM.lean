import Derived.Test.YtlhpoliiojekeaaKND
import Derived.Laws.Cover1
import Derived.WalkLawsBesides
import Derived.StillTailTactics
import Derived.Test.YtlhpoliiojekeaaKFL
/- What the reference's Form looks at, as plain lists. -/
namespace Go.Proofs.Ytlhpoliiojekeaa
set_option maxRecDepth 100000
open Go.RowKit

theorem inB_iff {low high : ByteArray} {bl ov : Bool} {k : ByteArray} : inB low high bl ov k = true ↔ (bl = true → kl k low = false) ∧ (ov = true → kl k high = true) := by
  unfold inB
  cases bl <;> cases ov <;> simp
/-- Separating keys lie between the bounds of the keys below them. -/
theorem seps_in {ks : List ByteArray} {kids : List Kid} {low high : ByteArray} {bl ov : Bool} (hn : kids.length = ks.length + 1) (ht : (toks ks kids).Pairwise tr) (he : ∀ y ∈ kids, y.ps ≠ []) (hb : ∀ p ∈ kidsP kids, inB low high bl ov p.1 = true) :
    ∀ s ∈ ks, inB low high bl ov s = true := by
  intro s hs
  obtain ⟨p, hp, h1⟩ := sep_before ks kids hn ht he s hs
  obtain ⟨q, hq, h2⟩ := sep_after ks kids hn ht he s hs
  have hbp := inB_iff.1 (hb p hp)
  have hbq := inB_iff.1 (hb q hq)
  refine inB_iff.2 ⟨fun e => ?_, fun e => ?_⟩
  · exact kl_asymm (kl_le_lt (hbp.1 e) h1)
  · exact kl_le_lt h2 (hbq.2 e)
/-- Each kid's keys rise. -/
theorem kid_rises : ∀ (ks : List ByteArray) (kids : List Kid), kids.length = ks.length + 1 → (toks ks kids).Pairwise tr → ∀ y ∈ kids, Rises (keys y.ps)
  | [], [y], _, h, z, hz => by
    simp only [List.mem_cons, List.not_mem_nil, or_false] at hz
    subst hz
    simp only [toks, kt, List.pairwise_map] at h
    exact h
  | [], [], h, _, _, _ => by simp at h
  | [], _ :: _ :: _, h, _, _, _ => by simp at h
  | _ :: _, [], h, _, _, _ => by simp at h
  | s :: ks, y :: kids, hn, h, z, hz => by
    simp only [toks] at h
    have h1 := List.pairwise_append.1 h
    rcases List.mem_cons.1 hz with rfl | hz
    · have := h1.1
      simp only [kt, List.pairwise_map] at this
      exact this
    · exact kid_rises ks kids (by simpa using hn) (List.pairwise_cons.1 h1.2.1).2 z hz
/-- The bounds of kid j. -/
def lowOf (ks : List ByteArray) (low : ByteArray) (j : Nat) : ByteArray := if 0 < j then ks.getD (j - 1) ⟨#[]⟩ else low
def highOf (ks : List ByteArray) (high : ByteArray) (j : Nat) : ByteArray := if j < ks.length then ks.getD j ⟨#[]⟩ else high
theorem toks_cut {ks : List ByteArray} {kids : List Kid} (hn : kids.length = ks.length + 1) {i : Nat} {s : ByteArray} (hs : ks[i]? = some s) : toks ks kids = toks (ks.take i) (kids.take (i + 1)) ++ Tk.sep s :: toks (ks.drop (i + 1)) (kids.drop (i + 1)) := by
  have hlt := (List.getElem?_eq_some_iff.1 hs).1
  have h1 := toks_join s (ks.drop (i + 1)) (kids.drop (i + 1)) (ks.take i) (kids.take (i + 1)) (by rw [List.length_take, List.length_take]; omega)
  rw [← cut_at ks i s hs, List.take_append_drop] at h1
  exact h1
theorem toks_under {ks : List ByteArray} {kids : List Kid} (hn : kids.length = ks.length + 1) (ht : (toks ks kids).Pairwise tr) : ∀ i s, ks[i]? = some s → ∀ p ∈ kidsP (kids.take (i + 1)), kl p.1 s = true := by
  intro i s hs p hp
  have hlt := (List.getElem?_eq_some_iff.1 hs).1
  rw [toks_cut hn hs] at ht
  exact (List.pairwise_append.1 ht).2.2 _ (mem_toks _ _ (by rw [List.length_take, List.length_take]; omega) p hp) _ (List.mem_cons_self ..)
theorem toks_over {ks : List ByteArray} {kids : List Kid} (hn : kids.length = ks.length + 1) (ht : (toks ks kids).Pairwise tr) : ∀ i s, ks[i]? = some s → ∀ p ∈ kidsP (kids.drop (i + 1)), kl p.1 s = false := by
  intro i s hs p hp
  have hlt := (List.getElem?_eq_some_iff.1 hs).1
  rw [toks_cut hn hs] at ht
  exact (List.pairwise_cons.1 (List.pairwise_append.1 ht).2.1).1 _ (mem_toks _ _ (by rw [List.length_drop, List.length_drop]; omega) p hp)
theorem kid_in {ks : List ByteArray} {kids : List Kid} {low high : ByteArray} {bl ov : Bool} (hn : kids.length = ks.length + 1) (ht : (toks ks kids).Pairwise tr) (hb : ∀ p ∈ kidsP kids, inB low high bl ov p.1 = true) {j : Nat} {y : Kid} (hy : kids[j]? = some y) :
    ∀ p ∈ y.ps, inB (lowOf ks low j) (highOf ks high j) (decide (0 < j) || bl) (decide (j < ks.length) || ov) p.1 = true := by
  intro p hp
  have hjl := (List.getElem?_eq_some_iff.1 hy).1
  have hpk : p ∈ kidsP kids := by
    rw [kidsP_cut kids j y hy]
    exact List.mem_append_right _ (List.mem_append_left _ hp)
  have hbp := inB_iff.1 (hb p hpk)
  refine inB_iff.2 ⟨fun e => ?_, fun e => ?_⟩
  · unfold lowOf
    by_cases hj : 0 < j
    · rw [if_pos hj]
      have hs : ks[j - 1]? = some (ks.getD (j - 1) ⟨#[]⟩) := by
        rw [List.getD_eq_getElem?_getD, List.getElem?_eq_getElem (by omega)]; rfl
      refine toks_over hn ht (j - 1) _ hs p ?_
      rw [show j - 1 + 1 = j by omega]
      obtain ⟨h1, rfl⟩ := List.getElem?_eq_some_iff.1 hy
      rw [List.drop_eq_getElem_cons h1, kidsP_cons]
      exact List.mem_append_left _ hp
    · rw [if_neg hj]
      simp only [hj, decide_false, Bool.false_or] at e
      exact hbp.1 e
  · unfold highOf
    by_cases hj : j < ks.length
    · rw [if_pos hj]
      have hs : ks[j]? = some (ks.getD j ⟨#[]⟩) := by
        rw [List.getD_eq_getElem?_getD, List.getElem?_eq_getElem hj]; rfl
      refine toks_under hn ht j _ hs p ?_
      rw [List.take_add_one, hy, Option.toList_some, kidsP_app]
      exact List.mem_append_right _ (by simpa [kidsP] using hp)
    · rw [if_neg hj]
      simp only [hj, decide_false, Bool.false_or] at e
      exact hbp.2 e
end Go.Proofs.Ytlhpoliiojekeaa

/- Form's look at a node: what it is told, and what its walk keeps. -/
namespace Go.Proofs.Ytlhpoliiojekeaa
set_option maxRecDepth 100000
open Go.RowKit

/-- An operation that only reads, taken first. -/
theorem take_read {P : Program} {ops : Array Oper} {Q : Exit → Act → World → Prop} {md : Region.Mode} {S : World → Prop} (i : Nat) (k : Tmp) (v : Value) {oi : Oper} {fuel : Nat} {listed : Array Bool} {a : Act} {w : World} (hi : ops[i]? = some oi) (hk : oi.dst = some k)
    (hs : Region.noSelect ops = true) (hf : Region.free md ops listed i = true) (hr : (Region.ready md ops listed).contains i = true)
    (hQ : ∀ c a w, Q (.panic c) (a.put (some k) v) w → Q (.panic c) a w) (hw : Region.wanted oi (yielded ops a.tmps) = true) (hS : S w) (hy : ∀ w, S w → (execOp a.eval oi).run P w = .ok (.value v) w)
    (h : wpAnyH P md ops Q S fuel (listed.setIfInBounds i true) (a.put (some k) v) w) : wpAnyH P md ops Q S (fuel + 1) listed a w :=
  wpAnyH_take hi hs hf hr (by rw [hk]; exact hQ) (.inl ⟨hw, hy⟩) hS (by rw [hk]; exact h)
/-- An operation that is not wanted, taken first. -/
theorem take_skip {P : Program} {ops : Array Oper} {Q : Exit → Act → World → Prop} {md : Region.Mode} {S : World → Prop} (i : Nat) (k : Tmp) {oi : Oper} {fuel : Nat} {listed : Array Bool} {a : Act} {w : World} (hi : ops[i]? = some oi) (hk : oi.dst = some k)
    (hs : Region.noSelect ops = true) (hf : Region.free md ops listed i = true) (hr : (Region.ready md ops listed).contains i = true)
    (hQ : ∀ c a w, Q (.panic c) (a.put (some k) undef) w → Q (.panic c) a w) (hw : Region.wanted oi (yielded ops a.tmps) = false) (hS : S w)
    (h : wpAnyH P md ops Q S fuel (listed.setIfInBounds i true) (a.put (some k) undef) w) : wpAnyH P md ops Q S (fuel + 1) listed a w :=
  wpAnyH_take hi hs hf hr (by rw [hk]; exact hQ) (.inr ⟨hw, rfl⟩) hS (by rw [hk]; exact h)
/-- What is no list of texts and no struct of what is found is as before. -/
def Kp (w w' : World) : Prop := ∀ (U : Nat) (cs : Array Value) (e : TypeId) (fr : Nat × Nat), w.heap[U]? = some (.cells cs e fr) → e ≠ 9 → e ≠ 95 → w'.heap[U]? = some (.cells cs e fr)
theorem Kp.refl (w : World) : Kp w w := fun _ _ _ _ h _ _ => h
theorem Kp.trans {a b c : World} (h : Kp a b) (k : Kp b c) : Kp a c := fun U cs e fr hu h1 h2 => k U cs e fr (h U cs e fr hu h1 h2) h1 h2
theorem Gw.kp {a b : World} (h : Gw a b) : Kp a b := fun U _ _ _ hu _ _ => (Below.block h U (Array.getElem?_eq_some_iff.1 hu).1).trans hu
theorem Xt.kp {w w' : World} {F : Nat} (h : Xt F w w') {cs : Array Value} {fr : Nat × Nat} (hF : w.heap[F]? = some (.cells cs 95 fr)) : Kp w w' := fun U cs' e fr' hu h1 h2 =>
  (h.block U (Array.getElem?_eq_some_iff.1 hu).1 (fun e' => by
    rw [e', hF] at hu
    simp only [Option.some.injEq, Obj.cells.injEq] at hu
    exact h2 hu.2.1.symm)).trans hu
theorem VO.kp {base : Nat} {w w2 : World} {v : Value} {vs : List Value} (h : VO elS base w v vs) (hg : w.grownBy w2 v.ownBlock) : Kp w w2 := fun _ _ _ _ hu h1 _ => h.row_kept hg hu h1
theorem FmAt.set {w : World} {F : Nat} {nv : Value} {ord depth : Nat} {kv : Value} {nx : Int} {good : Bool} (h : FmAt w F nv ord depth kv nx good) (d' : Nat) : FmAt (w.setCell ⟨F, 2, none⟩ (.int .i64 (d' : Nat))) F nv ord d' kv nx good := by
  refine ⟨?_⟩
  have := h.row
  simp [World.setCell, Array.getElem?_modify, this]
theorem FmAt.setK {w : World} {F : Nat} {nv : Value} {ord depth : Nat} {kv : Value} {nx : Int} {good : Bool} (h : FmAt w F nv ord depth kv nx good) (kv' : Value) : FmAt (w.setCell ⟨F, 3, none⟩ kv') F nv ord depth kv' nx good := by
  refine ⟨?_⟩
  have := h.row
  simp [World.setCell, Array.getElem?_modify, this]
theorem FmAt.gw {w w' : World} {F : Nat} {nv : Value} {ord depth : Nat} {kv : Value} {nx : Int} {good : Bool} (h : FmAt w F nv ord depth kv nx good) (g : Gw w w') : FmAt w' F nv ord depth kv nx good :=
  ⟨(Below.block g _ (Array.getElem?_eq_some_iff.1 h.row).1).trans h.row⟩
/-- The told nodes are those of the row. -/
structure FT (ord : Nat) (w0 : World) (A : Option Addr) (n : Nat) (L : List TN) (R : List Nd) : Prop where
  nl : NL w0 A n L
  len : L.length = R.length
  told : ∀ j x t, R[j]? = some x → L[j]? = some t → Told ord R x t (off L j)
  o3 : 3 ≤ ord
  o64 : ord ≤ 64
  n4 : n ≤ 4000000
theorem inB_all {low high : ByteArray} {bl ov : Bool} {ps : List Pr} (h : ∀ p ∈ ps, inB low high bl ov p.1 = true) : ∀ k ∈ keys ps, inB low high bl ov k = true := by
  intro k hk
  obtain ⟨p, hp, rfl⟩ := List.mem_map.1 hk
  exact h p hp
/-- What a look at a node leads to. -/
def NodeLook (ord : Nat) (w0 : World) (A : Option Addr) (n c : Nat) (nx : Int) (w : World) (F depth : Nat) (ks : List ByteArray) (w' : World) : Prop :=
  ∃ kv', FmAt w' F (.slice A n c) ord depth kv' nx true ∧ Gw w0 w' ∧ Kp w w' ∧ VO elS w0.heap.size w' kv' (ks.map Value.string)
theorem bx0 {w0 w : World} {g : Nat} {a b c d : Value} {e : TypeId} (g0 : Gw w0 w) (hg : w0.heap.size ≤ g) (h : w.heap[g]? = some (.cells #[a, b, c, d] e (0, 0))) (v : Value) : (w.setCell ⟨g, 0, none⟩ v).heap[g]? = some (.cells #[v, b, c, d] e (0, 0)) ∧ Gw w0 (w.setCell ⟨g, 0, none⟩ v) :=
  ⟨by simp [World.setCell, Array.getElem?_modify, h], Xt.below g0 (Xt.set (Gw.refl _) 0 v) hg⟩
theorem bx1 {w0 w : World} {g : Nat} {a b c d : Value} {e : TypeId} (g0 : Gw w0 w) (hg : w0.heap.size ≤ g) (h : w.heap[g]? = some (.cells #[a, b, c, d] e (0, 0))) (v : Value) : (w.setCell ⟨g, 1, none⟩ v).heap[g]? = some (.cells #[a, v, c, d] e (0, 0)) ∧ Gw w0 (w.setCell ⟨g, 1, none⟩ v) :=
  ⟨by simp [World.setCell, Array.getElem?_modify, h], Xt.below g0 (Xt.set (Gw.refl _) 1 v) hg⟩
theorem bx2 {w0 w : World} {g : Nat} {a b c d : Value} {e : TypeId} (g0 : Gw w0 w) (hg : w0.heap.size ≤ g) (h : w.heap[g]? = some (.cells #[a, b, c, d] e (0, 0))) (v : Value) : (w.setCell ⟨g, 2, none⟩ v).heap[g]? = some (.cells #[a, b, v, d] e (0, 0)) ∧ Gw w0 (w.setCell ⟨g, 2, none⟩ v) :=
  ⟨by simp [World.setCell, Array.getElem?_modify, h], Xt.below g0 (Xt.set (Gw.refl _) 2 v) hg⟩
theorem bx3 {w0 w : World} {g : Nat} {a b c d : Value} {e : TypeId} (g0 : Gw w0 w) (hg : w0.heap.size ≤ g) (h : w.heap[g]? = some (.cells #[a, b, c, d] e (0, 0))) (v : Value) : (w.setCell ⟨g, 3, none⟩ v).heap[g]? = some (.cells #[a, b, c, v] e (0, 0)) ∧ Gw w0 (w.setCell ⟨g, 3, none⟩ v) :=
  ⟨by simp [World.setCell, Array.getElem?_modify, h], Xt.below g0 (Xt.set (Gw.refl _) 3 v) hg⟩
theorem bx_cells {w : World} {g : Nat} {a b c d : Value} {e : TypeId} (h : w.heap[g]? = some (.cells #[a, b, c, d] e (0, 0))) : w.cell? ⟨g, 0, none⟩ = some a ∧ w.cell? ⟨g, 1, none⟩ = some b ∧ w.cell? ⟨g, 2, none⟩ = some c ∧ w.cell? ⟨g, 3, none⟩ = some d ∧ ∀ i, w.frozen? ⟨g, i, none⟩ = false :=
  ⟨by rw [cell_of_row _ _ _ _ _ _ h]; rfl, by rw [cell_of_row _ _ _ _ _ _ h]; rfl, by rw [cell_of_row _ _ _ _ _ _ h]; rfl, by rw [cell_of_row _ _ _ _ _ _ h]; rfl, fun i => by simp [World.frozen?, h]⟩
theorem off_pos (L : List TN) (i : Nat) : 1 ≤ off L i := by unfold off; omega
theorem kids_upto {kids : List Kid} {k : Nat} {y : Kid} (h : kids[k]? = some y) : kidsP (kids.take (k + 1)) = kidsP (kids.take k) ++ y.ps ∧ (kidsP (kids.take k)).length + y.ps.length ≤ (kidsP kids).length := by
  have h1 : kidsP (kids.take (k + 1)) = kidsP (kids.take k) ++ y.ps := by rw [List.take_add_one, h, Option.toList_some, kidsP_app]; simp [kidsP]
  refine ⟨h1, ?_⟩
  have h2 : kidsP kids = kidsP (kids.take (k + 1)) ++ kidsP (kids.drop (k + 1)) := by rw [← kidsP_app, List.take_append_drop]
  rw [h2, h1, List.length_append, List.length_append]
  omega
/-- append of texts onto a list that the call itself made, as one step of a drawn region. -/
theorem vs_append {w : World} {ops : Array Oper} {o : Oper} {a : Act} {K : Act → World → Prop} {Q : Exit → Act → World → Prop} {Z : Prop} (E : El) (hE : E.Ok) (hgd : o.guard = none) (s x : Operand)
    (ho : o.op = .call { callee := .builtin .append, args := #[s, x], argTypes := #[E.t, E.t] })
    (base : Nat) (v : Value) (vs : List Value) (hs : a.eval s = v) (hown : VO E base w v vs) (A : Option Addr) (m c : Nat) (ys : List Value) (hx : a.eval x = .slice A m c) (hr : VB w A m ys)
    (hsz : vs.length + m ≤ 4000000) (hbase : base ≤ w.heap.size)
    (h : ∀ v' w', VO E base w' v' (vs ++ ys) → Below base w w' → w.grownBy w' v.ownBlock → K (a.put o.dst v') w') : if Region.wanted o (yielded ops a.tmps) = true then Oper.wp Try.prog o a w K Q else Z := by
  rw [if_pos (by simp [Region.wanted, hgd])]
  obtain ⟨i0, hi, hz0, hz1, hz2⟩ := info_parts hE.info
  have hrow : ∀ k, v.ownBlock = some k → base ≤ k := fun k hk => (hown.lt k hk).1
  have hlen := hr.len
  have hb0 := hE.b0
  have hbs := hE.small
  rcases A with _ | ad
  · have hm : m = 0 := by
      rcases Nat.eq_zero_or_pos m with h0 | h0
      · exact h0
      · obtain ⟨ad, e, _⟩ := hr.cell h0
        cases e
    subst hm
    have hy : ys = [] := List.eq_nil_of_length_eq_zero hlen
    subst hy
    have hrun := run_append_nothing w E.t o.type i0 hE.und hi hown.own c
    unfold Oper.wp
    simp [execOp, ho, resolve, invoke, builtin, hs, hx, hrun, Result.andThen]
    exact h v w (by simpa using hown) (Below.refl _ _) (World.grownBy.refl w _)
  · refine wp_append_own w s x E.t ho base E.e i0 E.z 1 E.b hE.und hi hz0 hz1 hz2 (by rw [hE.zc]; rfl) (by decide) v vs.length _ hs hown.own ad m c ys hx (by simpa using hlen) ?_ hr.one
      (by simp only [maxLen]; omega) (by first | omega | (have := Nat.mul_le_mul_left (vs.length + m) hbs; omega)) hbase ?_
    · intro j u hu
      obtain ⟨ad', e, hc⟩ := hr.at_ hu
      injection e with e
      subst e
      exact hc
    · intro v' w' hown' hg _
      refine h v' w' ⟨?_, ?_⟩ (below_of_grown hg hbase hrow) hg
      · rw [List.length_append, hlen]; exact hown'
      · intro z hz
        rcases List.mem_append.1 hz with hz | hz
        · exact hown.one z hz
        · exact hr.one z hz
end Go.Proofs.Ytlhpoliiojekeaa

/- Form's look at a node, and at all below it: the walk. -/
namespace Go.Proofs.Ytlhpoliiojekeaa
set_option maxRecDepth 100000
open Go.RowKit

set_option maxHeartbeats 16000000 in
theorem wnode {ord : Nat} {w0 : World} {A : Option Addr} {n c : Nat} {nx : Int} {L : List TN} {R : List Nd} (hFT : FT ord w0 A n L R) :
    ∀ (d : Nat) (y : Kid) (j dep depth : Nat) (w : World) (F : Nat) (kv : Value) (acc : List ByteArray) (low high : ByteArray) (bl ov : Bool), R[j]? = some (d, y) → ((j = 0 ∧ y.m ≤ most ord d ∧ (1 ≤ d → 2 ≤ y.m)) ∨ (j ≠ 0 ∧ Fit ord d y.m)) → Rises (keys y.ps) → (∀ p ∈ y.ps, inB low high bl ov p.1 = true) →
      Gw w0 w → FmAt w F (.slice A n c) ord dep kv nx true → w0.heap.size ≤ F → (dep = 0 ∨ dep = depth + d) → 1 ≤ depth → depth + d ≤ 1000 → VO elS w0.heap.size w kv (acc.map Value.string) → acc.length + y.ps.length ≤ 1048576 →
      Calls Try.prog 48 #[.pointer (some ⟨F, 0, none⟩), .int .i64 (j : Nat), .int .i64 (depth : Nat), .agg #[.string low, .string high, .bool bl, .bool ov]] w fun e w' => e = .returned (.tuple #[]) ∧ NodeLook ord w0 A n c nx w F (depth + d) (acc ++ keys y.ps) w' := by
  intro d
  induction d using Nat.strongRecOn with
  | _ d ih =>
  intro y j dep depth w F kv acc low high bl ov hR hfit hrise hb g0 hF hFb hd hd1 hd2 hkv hacc
  have hjR := (List.getElem?_eq_some_iff.1 hR).1
  obtain ⟨t, ht⟩ : ∃ t, L[j]? = some t := ⟨_, List.getElem?_eq_getElem (by rw [hFT.len]; exact hjR)⟩
  have htold := hFT.told j _ t hR ht
  have h3 := hFT.o3
  have h64 := hFT.o64
  -- what each kind of node says of its keys and of filled
  have key : (∀ k ∈ t.ks, inB low high bl ov k = true) ∧ Rises t.ks ∧ t.ks.length ≤ 64 ∧ ∀ X, Gw w X → ∀ K ck B cb, Calls Try.prog 61 #[.pointer (some ⟨F, 0, none⟩), .agg #[.bool t.leaf, .slice K t.ks.length ck, .slice B t.kids.length cb], .bool ((j : Int) == 0)] X fun e w' => e = .returned (.bool true) ∧ Gw X w' := by
    rcases d with _ | d
    · obtain ⟨rfl, hm⟩ := htold
      simp only at hm
      have hmk : (keys y.ps).length = y.m := by rw [keys_len]; exact hm.symm
      have hmo : most ord 0 = ord - 1 := by simp [most]
      refine ⟨inB_all hb, hrise, ?_, fun X hX K ck B cb => wfilledL (depth := dep) (nv := .slice A n c) (kv := kv) (nx := nx) (good := true) (hF.gw hX) h3 h64 K B _ ck cb ?_ ?_⟩
      · rcases hfit with ⟨_, h, _⟩ | ⟨_, _, h⟩ <;> · rw [hmo] at h; simp only; omega
      · rcases hfit with ⟨_, h, _⟩ | ⟨_, _, h⟩ <;> · rw [hmo] at h; simp only; omega
      · rcases hfit with ⟨rfl, h, _⟩ | ⟨_, h, _⟩
        · exact .inl rfl
        · right; rw [hmo] at h; simp only; omega
    · obtain ⟨ks, kids, rfl, hn, hm, hps, htok, hkf, -⟩ := htold
      simp only at hm hps
      have hmo : most ord (d + 1) = ord := by simp [most]
      rw [hps] at hb
      refine ⟨seps_in hn htok (fun y hy => (hkf y hy).2) hb, toks_rise ks kids hn htok, ?_, fun X hX K ck B cb => ?_⟩
      · rcases hfit with ⟨_, h, _⟩ | ⟨_, _, h⟩ <;> · rw [hmo] at h; simp only; omega
      · have hl : (List.range' (off L j) kids.length).length = kids.length := List.length_range' ..
        simp only [hl]
        refine wfilledI (depth := dep) (nv := .slice A n c) (kv := kv) (nx := nx) (good := true) (hF.gw hX) h3 h64 K B ks.length ck kids.length cb hn ?_ ?_
        · rcases hfit with ⟨_, h, _⟩ | ⟨_, _, h⟩ <;> · rw [hmo] at h; omega
        · rcases hfit with ⟨rfl, _, h⟩ | ⟨hj, h, _⟩
          · have h9 := h (by omega); simp; omega
          · rw [if_neg (by simp; omega)]; rw [hmo] at h; omega
  obtain ⟨hbk, hrk, hm64, hfill⟩ := key
  obtain ⟨b, o, K, ck, B, cb, rfl, n0, n1, n2, hvb, hIA⟩ := hFT.nl.at_ ht
  have hjn : j < n := by have := hFT.nl.1; have := hFT.len; omega
  have hn4 := hFT.n4
  obtain ⟨m, hm⟩ : ∃ m, t.ks.length = m := ⟨_, rfl⟩
  obtain ⟨q, hq⟩ : ∃ q, t.kids.length = q := ⟨_, rfl⟩
  obtain ⟨lf, hlf⟩ : ∃ lf, t.leaf = lf := ⟨_, rfl⟩
  rw [hm] at n1 hvb hm64 hfill
  rw [hq] at n2 hIA hfill
  rw [hlf] at n0 hfill
  have i1 : (j : Int) < (n : Int) := by omega
  have jb : (j : Int) ≤ 4000000 := by omega
  obtain ⟨W1, hW1⟩ : ∃ W1, w.alloc (.cells #[.string low, .string high, .bool bl, .bool ov] 98) = W1 := ⟨_, rfl⟩
  have G1 := Lib.hid (show Gw w W1 by rw [← hW1]; exact (Gw.refl _).alloc _)
  have m0 := keep_below (keep_below n0 g0) G1.out
  have m1 := keep_below (keep_below n1 g0) G1.out
  have m2 := keep_below (keep_below n2 g0) G1.out
  have f0 : W1.cell? ⟨F, 0, none⟩ = some (.slice (some ⟨b, o, none⟩) n c) := keep_below (by rw [cell_of_row _ _ _ _ _ _ hF.row]; rfl) G1.out
  have ha1 := heap_alloc_new w (.cells #[.string low, .string high, .bool bl, .bool ov] 98)
  rw [hW1] at ha1
  have HF := Lib.hid hF
  have HVB := Lib.hid (hvb.gw g0)
  have HVB0 := Lib.hid hvb
  have HIA0 := Lib.hid hIA
  have HB := Lib.hid hbk
  have HR := Lib.hid hrk
  have HM := Lib.hid hm
  have HQ := Lib.hid hq
  have HKV := Lib.hid hkv
  have HLF := Lib.hid hlf
  have HFT := Lib.hid hFT
  have HG0 := Lib.hid g0
  have HALL := Lib.hid (show R[j]? = some (d, y) ∧ L[j]? = some t ∧ Told ord R (d, y) t (off L j) ∧ w0.heap.size ≤ F ∧ (dep = 0 ∨ dep = depth + d) ∧ 1 ≤ depth ∧ depth + d ≤ 1000 ∧ acc.length + y.ps.length ≤ 1048576 ∧ (∀ p ∈ y.ps, inB low high bl ov p.1 = true) ∧ Rises (keys y.ps) from ⟨hR, ht, htold, hFb, hd, hd1, hd2, hacc, hb, hrise⟩)
  have IH := Lib.hid ih
  have HC := Lib.hid (fun X hX => hfill X hX K ck B cb)
  obtain ⟨W2, hW2⟩ : ∃ W2, W1.alloc (.cells #[.bool lf, .slice K m ck, .slice B q cb] 62) = W2 := ⟨_, rfl⟩
  have ha2 := heap_alloc_new W1 (.cells #[.bool lf, .slice K m ck, .slice B q cb] 62)
  rw [hW2] at ha2
  have hs1 : W1.heap.size = w.heap.size + 1 := by rw [← hW1]; simp
  have ha2' := ha2
  rw [hs1] at ha2'
  have HA2 := Lib.hid ha2'
  have G2 := Lib.hid (show Gw w W2 by rw [← hW2]; exact G1.out.alloc _)
  have HA12 := Lib.hid ((Below.block (show Gw W1 W2 by rw [← hW2]; exact (Gw.refl _).alloc _) _ (Array.getElem?_eq_some_iff.1 ha1).1).trans ha1)
  obtain ⟨c0, c1, c2⟩ := cell3 ha2'
  have db : (depth : Int) ≤ 1000 := by omega
  clear n0 n1 n2 hvb hIA hFT ht hb hbk hrk hm hq hlf hkv hF ha1 ha2 ha2' hR hfit hrise htold hfill hFb hd hd1 hd2 hacc g0 ih h3 h64 hjR hjn hn4
  go_enter Try.func48, Try.ntmps48
  go_upto_region 4 with (go_at_call 61; go_loud (refine (HC.out _ G2.out).mono ?_; rintro e w3 ⟨rfl, b3⟩; have B3 := Lib.hid (show Gw W2 w3 from b3); clear b3))
  clear hW1 hW2 c0 c1 c2 m0 m1 m2 f0
  go_upto_region 5 with fail
  go_loopw [9] (fun i' wr => ∃ i : Nat, i' = .int .i64 (i : Nat) ∧ i ≤ m ∧ Gw W2 wr) (fun i' _ => m - (intOf i').toNat)
  case atStart => exact ⟨0, rfl, Nat.zero_le _, B3.out⟩
  case round =>
    rename World => wr
    obtain ⟨i, rfl, hi, hG⟩ := hrel
    obtain ⟨d0, d1, d2⟩ := cell3 ((Below.block hG _ (Array.getElem?_eq_some_iff.1 HA2.out).1).trans HA2.out)
    have hB := (Below.block hG _ (Array.getElem?_eq_some_iff.1 HA12.out).1).trans HA12.out
    have hib : (i : Int) ≤ 64 := by omega
    by_cases hlt : i < m
    · have i2 : (i : Int) < (m : Int) := by omega
      obtain ⟨k, hk⟩ : ∃ k, t.ks[i]? = some k := ⟨_, List.getElem?_eq_getElem (by have := HM.out; omega)⟩
      have hvw := HVB.out.gw (G2.out.trans hG)
      obtain ⟨ad, rfl, ci⟩ := hvw.at_ (k := i) (u := .string k) (by simp [hk])
      have CHo := Lib.hid fun X => by have := wholds X low high k bl ov; rw [HB.out k (List.mem_of_getElem? hk)] at this; exact this
      have HLT := Lib.hid hlt
      have HGr := Lib.hid hG
      have e0 : wr.cell? ⟨w.heap.size, 0, none⟩ = some (.string low) := by rw [cell_of_row _ _ _ _ _ _ hB]; rfl
      have e1 : wr.cell? ⟨w.heap.size, 1, none⟩ = some (.string high) := by rw [cell_of_row _ _ _ _ _ _ hB]; rfl
      have e2 : wr.cell? ⟨w.heap.size, 2, none⟩ = some (.bool bl) := by rw [cell_of_row _ _ _ _ _ _ hB]; rfl
      have e3 : wr.cell? ⟨w.heap.size, 3, none⟩ = some (.bool ov) := by rw [cell_of_row _ _ _ _ _ _ hB]; rfl
      clear d0 d2 hB
      rcases Nat.eq_zero_or_pos i with hi0 | hi0
      · have i3 : ¬ (i : Int) > 0 := by omega
        have i4 : ¬ (0 : Int) < (i : Int) := by omega
        clear hk hvw hi hlt hG hi0
        obtain ⟨Sp, hSp⟩ : ∃ Sp : World → Prop, ∀ w', Sp w' ↔ (Gw wr w' ∧ w'.cell? ⟨w.heap.size, 0, none⟩ = some (.string low) ∧ w'.cell? ⟨w.heap.size, 1, none⟩ = some (.string high) ∧ w'.cell? ⟨w.heap.size, 2, none⟩ = some (.bool bl) ∧ w'.cell? ⟨w.heap.size, 3, none⟩ = some (.bool ov) ∧ w'.cell? ⟨w.heap.size + 1, 1, none⟩ = some (.slice (some ad) m ck) ∧ w'.cell? (ad.add i) = some (.string k)) := ⟨_, fun _ => Iff.rfl⟩
        have hS0 : Sp wr.drew := (hSp _).2 ⟨(Gw.refl _).drew, e0, e1, e2, e3, d1, ci⟩
        have KS := Lib.hid (show ∀ X, Gw wr X → Sp X from fun X hX => (hSp X).2 ⟨hX, keep_below e0 hX, keep_below e1 hX, keep_below e2 hX, keep_below e3 hX, keep_below d1 hX, keep_below ci hX⟩)
        clear e0 e1 e2 e3 ci
        go_upto_region 7 with fail
        clear d1
        refine wp_region_noPanic ?_
        refine wp_region_held (S := Sp) (by kernel_rfl) ?_
        change wpAnyH _ _ _ _ _ _ _ _ wr.drew
        refine take_read 0 35 (.agg #[.string low, .string high, .bool bl, .bool ov]) rfl rfl (by kernel_rfl) (by kernel_rfl) (by kernel_rfl) (fun _ _ _ h => h) (by rfl) hS0 (fun w' hS => by obtain ⟨-, e0, e1, e2, e3, e4, e5⟩ := (hSp w').1 hS; (go_simp; try omega)) ?_
        simp only [Act.put, List.setIfInBounds_toArray, List.set_cons_zero, List.set_cons_succ]
        refine take_read 1 36 (.pointer (some ⟨w.heap.size + 1, 1, none⟩)) rfl rfl (by kernel_rfl) (by kernel_rfl) (by kernel_rfl) (fun _ _ _ h => h) (by rfl) hS0 (fun w' hS => by obtain ⟨-, e0, e1, e2, e3, e4, e5⟩ := (hSp w').1 hS; (go_simp; try omega)) ?_
        simp only [Act.put, List.setIfInBounds_toArray, List.set_cons_zero, List.set_cons_succ]
        refine take_read 2 37 (.slice (some ad) m ck) rfl rfl (by kernel_rfl) (by kernel_rfl) (by kernel_rfl) (fun _ _ _ h => h) (by rfl) hS0 (fun w' hS => by obtain ⟨-, e0, e1, e2, e3, e4, e5⟩ := (hSp w').1 hS; (go_simp; try omega)) ?_
        simp only [Act.put, List.setIfInBounds_toArray, List.set_cons_zero, List.set_cons_succ]
        refine take_read 3 38 (.int .i64 (i : Nat)) rfl rfl (by kernel_rfl) (by kernel_rfl) (by kernel_rfl) (fun _ _ _ h => h) (by rfl) hS0 (fun w' hS => by obtain ⟨-, e0, e1, e2, e3, e4, e5⟩ := (hSp w').1 hS; (go_simp; try omega)) ?_
        simp only [Act.put, List.setIfInBounds_toArray, List.set_cons_zero, List.set_cons_succ]
        refine take_read 4 39 (.pointer (some (ad.add i))) rfl rfl (by kernel_rfl) (by kernel_rfl) (by kernel_rfl) (fun _ _ _ h => h) (by rfl) hS0 (fun w' hS => by obtain ⟨-, e0, e1, e2, e3, e4, e5⟩ := (hSp w').1 hS; (go_simp; try omega)) ?_
        simp only [Act.put, List.setIfInBounds_toArray, List.set_cons_zero, List.set_cons_succ]
        refine take_read 5 40 (.string k) rfl rfl (by kernel_rfl) (by kernel_rfl) (by kernel_rfl) (fun _ _ _ h => h) (by rfl) hS0 (fun w' hS => by obtain ⟨-, e0, e1, e2, e3, e4, e5⟩ := (hSp w').1 hS; (go_simp; try omega)) ?_
        simp only [Act.put, List.setIfInBounds_toArray, List.set_cons_zero, List.set_cons_succ]
        refine wpAnyH_ready (rs := [6]) (by kernel_rfl) (by simp) ?_
        refine AllReadyH.cons rfl (fun K hK => ?_) AllReadyH.nil
        go_simp
        go_at_call 62
        refine (CHo.out _).mono ?_
        rintro e w5 ⟨rfl, b5⟩
        have B5 := Lib.hid (show Gw wr w5 from ((Gw.refl wr).drew).trans b5)
        clear b5
        have hS5 := KS.out _ B5.out
        refine hK.out _ _ hS5 (fun _ => ?_)
        clear hK K
        try simp only [Act.put, List.setIfInBounds_toArray, List.set_cons_zero, List.set_cons_succ]
        refine take_read 7 42 (.bool false) rfl rfl (by kernel_rfl) (by kernel_rfl) (by kernel_rfl) (fun _ _ _ h => h) (by rfl) hS5 (fun w' hS => by obtain ⟨-, e0, e1, e2, e3, e4, e5⟩ := (hSp w').1 hS; (go_simp; try omega)) ?_
        simp only [Act.put, List.setIfInBounds_toArray, List.set_cons_zero, List.set_cons_succ]
        refine take_read 8 43 (.bool false) rfl rfl (by kernel_rfl) (by kernel_rfl) (by kernel_rfl) (fun _ _ _ h => h) (by rfl) hS5 (fun w' hS => by obtain ⟨-, e0, e1, e2, e3, e4, e5⟩ := (hSp w').1 hS; (go_simp; try omega)) ?_
        simp only [Act.put, List.setIfInBounds_toArray, List.set_cons_zero, List.set_cons_succ]
        refine take_read 9 44 (.int .i64 (i : Nat)) rfl rfl (by kernel_rfl) (by kernel_rfl) (by kernel_rfl) (fun _ _ _ h => h) (by rfl) hS5 (fun w' hS => by obtain ⟨-, e0, e1, e2, e3, e4, e5⟩ := (hSp w').1 hS; (go_simp; try omega)) ?_
        simp only [Act.put, List.setIfInBounds_toArray, List.set_cons_zero, List.set_cons_succ]
        refine take_read 10 45 (.bool false) rfl rfl (by kernel_rfl) (by kernel_rfl) (by kernel_rfl) (fun _ _ _ h => h) (by rfl) hS5 (fun w' hS => by obtain ⟨-, e0, e1, e2, e3, e4, e5⟩ := (hSp w').1 hS; (go_simp; try omega)) ?_
        simp only [Act.put, List.setIfInBounds_toArray, List.set_cons_zero, List.set_cons_succ]
        refine take_read 11 46 (.bool false) rfl rfl (by kernel_rfl) (by kernel_rfl) (by kernel_rfl) (fun _ _ _ h => h) (by rfl) hS5 (fun w' hS => by obtain ⟨-, e0, e1, e2, e3, e4, e5⟩ := (hSp w').1 hS; (go_simp; try omega)) ?_
        simp only [Act.put, List.setIfInBounds_toArray, List.set_cons_zero, List.set_cons_succ]
        refine take_skip 12 47 rfl rfl (by kernel_rfl) (by kernel_rfl) (by kernel_rfl) (fun _ _ _ h => h) (by rfl) hS5 ?_
        simp only [Act.put, List.setIfInBounds_toArray, List.set_cons_zero, List.set_cons_succ]
        refine take_skip 13 48 rfl rfl (by kernel_rfl) (by kernel_rfl) (by kernel_rfl) (fun _ _ _ h => h) (by rfl) hS5 ?_
        simp only [Act.put, List.setIfInBounds_toArray, List.set_cons_zero, List.set_cons_succ]
        refine take_skip 14 49 rfl rfl (by kernel_rfl) (by kernel_rfl) (by kernel_rfl) (fun _ _ _ h => h) (by rfl) hS5 ?_
        simp only [Act.put, List.setIfInBounds_toArray, List.set_cons_zero, List.set_cons_succ]
        refine take_skip 15 50 rfl rfl (by kernel_rfl) (by kernel_rfl) (by kernel_rfl) (fun _ _ _ h => h) (by rfl) hS5 ?_
        simp only [Act.put, List.setIfInBounds_toArray, List.set_cons_zero, List.set_cons_succ]
        refine take_skip 16 51 rfl rfl (by kernel_rfl) (by kernel_rfl) (by kernel_rfl) (fun _ _ _ h => h) (by rfl) hS5 ?_
        simp only [Act.put, List.setIfInBounds_toArray, List.set_cons_zero, List.set_cons_succ]
        refine take_skip 17 52 rfl rfl (by kernel_rfl) (by kernel_rfl) (by kernel_rfl) (fun _ _ _ h => h) (by rfl) hS5 ?_
        simp only [Act.put, List.setIfInBounds_toArray, List.set_cons_zero, List.set_cons_succ]
        refine take_skip 18 53 rfl rfl (by kernel_rfl) (by kernel_rfl) (by kernel_rfl) (fun _ _ _ h => h) (by rfl) hS5 ?_
        simp only [Act.put, List.setIfInBounds_toArray, List.set_cons_zero, List.set_cons_succ]
        refine take_skip 19 54 rfl rfl (by kernel_rfl) (by kernel_rfl) (by kernel_rfl) (fun _ _ _ h => h) (by rfl) hS5 ?_
        simp only [Act.put, List.setIfInBounds_toArray, List.set_cons_zero, List.set_cons_succ]
        refine take_skip 20 55 rfl rfl (by kernel_rfl) (by kernel_rfl) (by kernel_rfl) (fun _ _ _ h => h) (by rfl) hS5 ?_
        simp only [Act.put, List.setIfInBounds_toArray, List.set_cons_zero, List.set_cons_succ]
        refine take_skip 21 56 rfl rfl (by kernel_rfl) (by kernel_rfl) (by kernel_rfl) (fun _ _ _ h => h) (by rfl) hS5 ?_
        simp only [Act.put, List.setIfInBounds_toArray, List.set_cons_zero, List.set_cons_succ]
        refine take_skip 22 57 rfl rfl (by kernel_rfl) (by kernel_rfl) (by kernel_rfl) (fun _ _ _ h => h) (by rfl) hS5 ?_
        simp only [Act.put, List.setIfInBounds_toArray, List.set_cons_zero, List.set_cons_succ]
        refine take_skip 23 58 rfl rfl (by kernel_rfl) (by kernel_rfl) (by kernel_rfl) (fun _ _ _ h => h) (by rfl) hS5 ?_
        simp only [Act.put, List.setIfInBounds_toArray, List.set_cons_zero, List.set_cons_succ]
        refine take_read 24 59 (.bool false) rfl rfl (by kernel_rfl) (by kernel_rfl) (by kernel_rfl) (fun _ _ _ h => h) (by rfl) hS5 (fun w' hS => by obtain ⟨-, e0, e1, e2, e3, e4, e5⟩ := (hSp w').1 hS; (go_simp; try omega)) ?_
        simp only [Act.put, List.setIfInBounds_toArray, List.set_cons_zero, List.set_cons_succ]
        refine take_read 25 60 (.bool false) rfl rfl (by kernel_rfl) (by kernel_rfl) (by kernel_rfl) (fun _ _ _ h => h) (by rfl) hS5 (fun w' hS => by obtain ⟨-, e0, e1, e2, e3, e4, e5⟩ := (hSp w').1 hS; (go_simp; try omega)) ?_
        simp only [Act.put, List.setIfInBounds_toArray, List.set_cons_zero, List.set_cons_succ]
        refine wpAnyH_done (by kernel_rfl) ?_ _
        refine NoPanic.normal ?_
        go_wp2
        go_roundw
        case rel => exact ⟨i + 1, by go_num, HLT.out, HGr.out.trans B5.out⟩
        case measure => have := HLT.out; simp [intOf]; omega
      · obtain ⟨p, hp⟩ : ∃ p, i = p + 1 := ⟨i - 1, by omega⟩
        obtain ⟨q1, hq1⟩ : ∃ q1, t.ks[p]? = some q1 := ⟨_, List.getElem?_eq_getElem (by have := HM.out; omega)⟩
        obtain ⟨ad', hadq, cp⟩ := hvw.at_ (k := p) (u := .string q1) (by simp [hq1])
        obtain rfl : ad = ad' := by injection hadq
        have hlt2 := HR.out.at_ (i := p) (j := i) (by omega) hq1 hk
        have b1 : Op.bytesLess k.toList q1.toList = false := by
          cases hx : Op.bytesLess k.toList q1.toList
          · rfl
          · have := bl_trans _ _ _ hx hlt2; rw [bl_irrefl] at this; cases this
        have b2 : (k.toList == q1.toList) = false := by
          rw [toList_beq]
          refine decide_eq_false fun e => ?_
          subst e
          unfold kl at hlt2
          rw [bl_irrefl] at hlt2; cases hlt2
        have i3 : (i : Int) > 0 := by omega
        have i4 : IntKind.i64.wrap ((i : Int) - 1) = (p : Int) := by rw [IntKind.wrap_i64]; omega
        have i5 : (p : Int) < (m : Int) := by omega
        obtain ⟨Sp, hSp⟩ : ∃ Sp : World → Prop, ∀ w', Sp w' ↔ (Gw wr w' ∧ w'.cell? ⟨w.heap.size, 0, none⟩ = some (.string low) ∧ w'.cell? ⟨w.heap.size, 1, none⟩ = some (.string high) ∧ w'.cell? ⟨w.heap.size, 2, none⟩ = some (.bool bl) ∧ w'.cell? ⟨w.heap.size, 3, none⟩ = some (.bool ov) ∧ w'.cell? ⟨w.heap.size + 1, 1, none⟩ = some (.slice (some ad) m ck) ∧ w'.cell? (ad.add i) = some (.string k) ∧ w'.cell? (ad.add p) = some (.string q1)) := ⟨_, fun _ => Iff.rfl⟩
        have hS0 : Sp wr.drew := (hSp _).2 ⟨(Gw.refl _).drew, e0, e1, e2, e3, d1, ci, cp⟩
        have KS := Lib.hid (show ∀ X, Gw wr X → Sp X from fun X hX => (hSp X).2 ⟨hX, keep_below e0 hX, keep_below e1 hX, keep_below e2 hX, keep_below e3 hX, keep_below d1 hX, keep_below ci hX, keep_below cp hX⟩)
        clear hk hq1 hp hvw hi hlt hG hadq hlt2 hi0 e0 e1 e2 e3 ci cp
        go_upto_region 7 with fail
        clear d1
        refine wp_region_noPanic ?_
        refine wp_region_held (S := Sp) (by kernel_rfl) ?_
        change wpAnyH _ _ _ _ _ _ _ _ wr.drew
        refine take_read 0 35 (.agg #[.string low, .string high, .bool bl, .bool ov]) rfl rfl (by kernel_rfl) (by kernel_rfl) (by kernel_rfl) (fun _ _ _ h => h) (by rfl) hS0 (fun w' hS => by obtain ⟨-, e0, e1, e2, e3, e4, e5, e6⟩ := (hSp w').1 hS; (go_simp; try omega)) ?_
        simp only [Act.put, List.setIfInBounds_toArray, List.set_cons_zero, List.set_cons_succ]
        refine take_read 1 36 (.pointer (some ⟨w.heap.size + 1, 1, none⟩)) rfl rfl (by kernel_rfl) (by kernel_rfl) (by kernel_rfl) (fun _ _ _ h => h) (by rfl) hS0 (fun w' hS => by obtain ⟨-, e0, e1, e2, e3, e4, e5, e6⟩ := (hSp w').1 hS; (go_simp; try omega)) ?_
        simp only [Act.put, List.setIfInBounds_toArray, List.set_cons_zero, List.set_cons_succ]
        refine take_read 2 37 (.slice (some ad) m ck) rfl rfl (by kernel_rfl) (by kernel_rfl) (by kernel_rfl) (fun _ _ _ h => h) (by rfl) hS0 (fun w' hS => by obtain ⟨-, e0, e1, e2, e3, e4, e5, e6⟩ := (hSp w').1 hS; (go_simp; try omega)) ?_
        simp only [Act.put, List.setIfInBounds_toArray, List.set_cons_zero, List.set_cons_succ]
        refine take_read 3 38 (.int .i64 (i : Nat)) rfl rfl (by kernel_rfl) (by kernel_rfl) (by kernel_rfl) (fun _ _ _ h => h) (by rfl) hS0 (fun w' hS => by obtain ⟨-, e0, e1, e2, e3, e4, e5, e6⟩ := (hSp w').1 hS; (go_simp; try omega)) ?_
        simp only [Act.put, List.setIfInBounds_toArray, List.set_cons_zero, List.set_cons_succ]
        refine take_read 4 39 (.pointer (some (ad.add i))) rfl rfl (by kernel_rfl) (by kernel_rfl) (by kernel_rfl) (fun _ _ _ h => h) (by rfl) hS0 (fun w' hS => by obtain ⟨-, e0, e1, e2, e3, e4, e5, e6⟩ := (hSp w').1 hS; (go_simp; try omega)) ?_
        simp only [Act.put, List.setIfInBounds_toArray, List.set_cons_zero, List.set_cons_succ]
        refine take_read 5 40 (.string k) rfl rfl (by kernel_rfl) (by kernel_rfl) (by kernel_rfl) (fun _ _ _ h => h) (by rfl) hS0 (fun w' hS => by obtain ⟨-, e0, e1, e2, e3, e4, e5, e6⟩ := (hSp w').1 hS; (go_simp; try omega)) ?_
        simp only [Act.put, List.setIfInBounds_toArray, List.set_cons_zero, List.set_cons_succ]
        refine wpAnyH_ready (rs := [6]) (by kernel_rfl) (by simp) ?_
        refine AllReadyH.cons rfl (fun K hK => ?_) AllReadyH.nil
        go_simp
        go_at_call 62
        refine (CHo.out _).mono ?_
        rintro e w5 ⟨rfl, b5⟩
        have B5 := Lib.hid (show Gw wr w5 from ((Gw.refl wr).drew).trans b5)
        clear b5
        have hS5 := KS.out _ B5.out
        refine hK.out _ _ hS5 (fun _ => ?_)
        clear hK K
        try simp only [Act.put, List.setIfInBounds_toArray, List.set_cons_zero, List.set_cons_succ]
        refine take_read 7 42 (.bool false) rfl rfl (by kernel_rfl) (by kernel_rfl) (by kernel_rfl) (fun _ _ _ h => h) (by rfl) hS5 (fun w' hS => by obtain ⟨-, e0, e1, e2, e3, e4, e5, e6⟩ := (hSp w').1 hS; (go_simp; try omega)) ?_
        simp only [Act.put, List.setIfInBounds_toArray, List.set_cons_zero, List.set_cons_succ]
        refine take_read 8 43 (.bool false) rfl rfl (by kernel_rfl) (by kernel_rfl) (by kernel_rfl) (fun _ _ _ h => h) (by rfl) hS5 (fun w' hS => by obtain ⟨-, e0, e1, e2, e3, e4, e5, e6⟩ := (hSp w').1 hS; (go_simp; try omega)) ?_
        simp only [Act.put, List.setIfInBounds_toArray, List.set_cons_zero, List.set_cons_succ]
        refine take_read 9 44 (.int .i64 (i : Nat)) rfl rfl (by kernel_rfl) (by kernel_rfl) (by kernel_rfl) (fun _ _ _ h => h) (by rfl) hS5 (fun w' hS => by obtain ⟨-, e0, e1, e2, e3, e4, e5, e6⟩ := (hSp w').1 hS; (go_simp; try omega)) ?_
        simp only [Act.put, List.setIfInBounds_toArray, List.set_cons_zero, List.set_cons_succ]
        refine take_read 10 45 (.bool true) rfl rfl (by kernel_rfl) (by kernel_rfl) (by kernel_rfl) (fun _ _ _ h => h) (by rfl) hS5 (fun w' hS => by obtain ⟨-, e0, e1, e2, e3, e4, e5, e6⟩ := (hSp w').1 hS; (go_simp; try omega)) ?_
        simp only [Act.put, List.setIfInBounds_toArray, List.set_cons_zero, List.set_cons_succ]
        refine take_read 11 46 (.bool true) rfl rfl (by kernel_rfl) (by kernel_rfl) (by kernel_rfl) (fun _ _ _ h => h) (by rfl) hS5 (fun w' hS => by obtain ⟨-, e0, e1, e2, e3, e4, e5, e6⟩ := (hSp w').1 hS; (go_simp; try omega)) ?_
        simp only [Act.put, List.setIfInBounds_toArray, List.set_cons_zero, List.set_cons_succ]
        refine take_read 12 47 (.pointer (some ⟨w.heap.size + 1, 1, none⟩)) rfl rfl (by kernel_rfl) (by kernel_rfl) (by kernel_rfl) (fun _ _ _ h => h) (by rfl) hS5 (fun w' hS => by obtain ⟨-, e0, e1, e2, e3, e4, e5, e6⟩ := (hSp w').1 hS; (go_simp; try omega)) ?_
        simp only [Act.put, List.setIfInBounds_toArray, List.set_cons_zero, List.set_cons_succ]
        refine take_read 13 48 (.slice (some ad) m ck) rfl rfl (by kernel_rfl) (by kernel_rfl) (by kernel_rfl) (fun _ _ _ h => h) (by rfl) hS5 (fun w' hS => by obtain ⟨-, e0, e1, e2, e3, e4, e5, e6⟩ := (hSp w').1 hS; (go_simp; try omega)) ?_
        simp only [Act.put, List.setIfInBounds_toArray, List.set_cons_zero, List.set_cons_succ]
        refine take_read 14 49 (.int .i64 (i : Nat)) rfl rfl (by kernel_rfl) (by kernel_rfl) (by kernel_rfl) (fun _ _ _ h => h) (by rfl) hS5 (fun w' hS => by obtain ⟨-, e0, e1, e2, e3, e4, e5, e6⟩ := (hSp w').1 hS; (go_simp; try omega)) ?_
        simp only [Act.put, List.setIfInBounds_toArray, List.set_cons_zero, List.set_cons_succ]
        refine take_read 15 50 (.pointer (some (ad.add i))) rfl rfl (by kernel_rfl) (by kernel_rfl) (by kernel_rfl) (fun _ _ _ h => h) (by rfl) hS5 (fun w' hS => by obtain ⟨-, e0, e1, e2, e3, e4, e5, e6⟩ := (hSp w').1 hS; (go_simp; try omega)) ?_
        simp only [Act.put, List.setIfInBounds_toArray, List.set_cons_zero, List.set_cons_succ]
        refine take_read 16 51 (.string k) rfl rfl (by kernel_rfl) (by kernel_rfl) (by kernel_rfl) (fun _ _ _ h => h) (by rfl) hS5 (fun w' hS => by obtain ⟨-, e0, e1, e2, e3, e4, e5, e6⟩ := (hSp w').1 hS; (go_simp; try omega)) ?_
        simp only [Act.put, List.setIfInBounds_toArray, List.set_cons_zero, List.set_cons_succ]
        refine take_read 17 52 (.pointer (some ⟨w.heap.size + 1, 1, none⟩)) rfl rfl (by kernel_rfl) (by kernel_rfl) (by kernel_rfl) (fun _ _ _ h => h) (by rfl) hS5 (fun w' hS => by obtain ⟨-, e0, e1, e2, e3, e4, e5, e6⟩ := (hSp w').1 hS; (go_simp; try omega)) ?_
        simp only [Act.put, List.setIfInBounds_toArray, List.set_cons_zero, List.set_cons_succ]
        refine take_read 18 53 (.slice (some ad) m ck) rfl rfl (by kernel_rfl) (by kernel_rfl) (by kernel_rfl) (fun _ _ _ h => h) (by rfl) hS5 (fun w' hS => by obtain ⟨-, e0, e1, e2, e3, e4, e5, e6⟩ := (hSp w').1 hS; (go_simp; try omega)) ?_
        simp only [Act.put, List.setIfInBounds_toArray, List.set_cons_zero, List.set_cons_succ]
        refine take_read 19 54 (.int .i64 (i : Nat)) rfl rfl (by kernel_rfl) (by kernel_rfl) (by kernel_rfl) (fun _ _ _ h => h) (by rfl) hS5 (fun w' hS => by obtain ⟨-, e0, e1, e2, e3, e4, e5, e6⟩ := (hSp w').1 hS; (go_simp; try omega)) ?_
        simp only [Act.put, List.setIfInBounds_toArray, List.set_cons_zero, List.set_cons_succ]
        refine take_read 20 55 (.int .i64 (p : Nat)) rfl rfl (by kernel_rfl) (by kernel_rfl) (by kernel_rfl) (fun _ _ _ h => h) (by rfl) hS5 (fun w' hS => by obtain ⟨-, e0, e1, e2, e3, e4, e5, e6⟩ := (hSp w').1 hS; (go_simp; try omega)) ?_
        simp only [Act.put, List.setIfInBounds_toArray, List.set_cons_zero, List.set_cons_succ]
        refine take_read 21 56 (.pointer (some (ad.add p))) rfl rfl (by kernel_rfl) (by kernel_rfl) (by kernel_rfl) (fun _ _ _ h => h) (by rfl) hS5 (fun w' hS => by obtain ⟨-, e0, e1, e2, e3, e4, e5, e6⟩ := (hSp w').1 hS; (go_simp; try omega)) ?_
        simp only [Act.put, List.setIfInBounds_toArray, List.set_cons_zero, List.set_cons_succ]
        refine take_read 22 57 (.string q1) rfl rfl (by kernel_rfl) (by kernel_rfl) (by kernel_rfl) (fun _ _ _ h => h) (by rfl) hS5 (fun w' hS => by obtain ⟨-, e0, e1, e2, e3, e4, e5, e6⟩ := (hSp w').1 hS; (go_simp; try omega)) ?_
        simp only [Act.put, List.setIfInBounds_toArray, List.set_cons_zero, List.set_cons_succ]
        refine take_read 23 58 (.bool false) rfl rfl (by kernel_rfl) (by kernel_rfl) (by kernel_rfl) (fun _ _ _ h => h) (by rfl) hS5 (fun w' hS => by obtain ⟨-, e0, e1, e2, e3, e4, e5, e6⟩ := (hSp w').1 hS; (go_simp; try omega)) ?_
        simp only [Act.put, List.setIfInBounds_toArray, List.set_cons_zero, List.set_cons_succ]
        refine take_read 24 59 (.bool false) rfl rfl (by kernel_rfl) (by kernel_rfl) (by kernel_rfl) (fun _ _ _ h => h) (by rfl) hS5 (fun w' hS => by obtain ⟨-, e0, e1, e2, e3, e4, e5, e6⟩ := (hSp w').1 hS; (go_simp; try omega)) ?_
        simp only [Act.put, List.setIfInBounds_toArray, List.set_cons_zero, List.set_cons_succ]
        refine take_read 25 60 (.bool false) rfl rfl (by kernel_rfl) (by kernel_rfl) (by kernel_rfl) (fun _ _ _ h => h) (by rfl) hS5 (fun w' hS => by obtain ⟨-, e0, e1, e2, e3, e4, e5, e6⟩ := (hSp w').1 hS; (go_simp; try omega)) ?_
        simp only [Act.put, List.setIfInBounds_toArray, List.set_cons_zero, List.set_cons_succ]
        refine wpAnyH_done (by kernel_rfl) ?_ _
        refine NoPanic.normal ?_
        go_wp2
        go_roundw
        case rel => exact ⟨i + 1, by go_num, HLT.out, HGr.out.trans B5.out⟩
        case measure => have := HLT.out; simp [intOf]; omega
    · obtain rfl : i = m := by omega
      have i2 : ¬ (i : Int) < (i : Int) := by omega
      have hGw := G2.out.trans hG
      have hFr := HF.out.gw hGw
      rcases d with _ | d
      · obtain ⟨hR, ht, htold, hFb, hd, hd1, hd2, hacc, hb, hrise⟩ := HALL.out
        have htl : t.leaf = true := by rw [htold.1]
        obtain rfl : lf = true := by rw [← HLF.out]; exact htl
        have f2 : wr.cell? ⟨F, 2, none⟩ = some (.int .i64 (dep : Nat)) := by rw [cell_of_row _ _ _ _ _ _ hFr.row]; rfl
        have hd0 : ¬ (depth : Int) = 0 := by omega
        have HKS := Lib.hid (show t.ks = keys y.ps by rw [htold.1])
        have HSZ := Lib.hid (show (acc.map Value.string).length + i ≤ 4000000 by rw [List.length_map, ← HM.out, HKS.out, keys_len]; omega)
        have fz : wr.frozen? ⟨F, 2, none⟩ = false := by have := hFr.row; simp [World.frozen?, this]
        have hF1 : F ≠ w.heap.size + 1 := by have := (Array.getElem?_eq_some_iff.1 HF.out.row).1; omega
        have PRE : ∀ X, FmAt X F (.slice (some ⟨b, o, none⟩) n c) ord depth kv nx true → Xt F wr X → X.cell? ⟨F, 3, none⟩ = some kv ∧ X.cell? ⟨w.heap.size + 1, 0, none⟩ = some (.bool true) ∧ X.cell? ⟨w.heap.size + 1, 1, none⟩ = some (.slice K i ck) ∧ X.frozen? ⟨F, 3, none⟩ = false ∧ X.cell? ⟨F, 2, none⟩ = some (.int .i64 (depth : Nat)) ∧ Hid (VO elS w0.heap.size X kv (acc.map Value.string)) ∧ Hid (VB X K i (t.ks.map Value.string)) ∧ Hid (Gw w0 X) ∧ Hid (Kp w X) ∧ Hid (∀ Y, Kp X Y → Y.cell? ⟨w.heap.size + 1, 1, none⟩ = some (.slice K i ck)) := fun X hX xX => by
          refine ⟨by rw [cell_of_row _ _ _ _ _ _ hX.row]; rfl, xX.cell d0 hF1.symm, xX.cell d1 hF1.symm, by have := hX.row; simp [World.frozen?, this], by rw [cell_of_row _ _ _ _ _ _ hX.row]; rfl, Lib.hid ((HKV.out.gw hGw).xt xX hFr.row (by decide)), Lib.hid (xX.vb ⟨_, _, _, hFr.row, by decide, by decide, by decide⟩ (HVB.out.gw hGw)), Lib.hid (Xt.below (HG0.out.trans hGw) xX hFb), Lib.hid (hGw.kp.trans (xX.kp hFr.row)), Lib.hid fun Y hY => ?_⟩
          have h9 := (Below.block hG _ (Array.getElem?_eq_some_iff.1 HA2.out).1).trans HA2.out
          exact (cell3 (hY _ _ _ _ ((xX.block _ (Array.getElem?_eq_some_iff.1 h9).1 hF1.symm).trans h9) (by decide) (by decide))).2.1
        have HFB := Lib.hid hFb
        rcases Nat.eq_zero_or_pos dep with hdep | hdep
        · subst hdep
          have PX := PRE _ (hFr.set depth) (Xt.set (Gw.refl _) 2 _)
          obtain ⟨X, hX⟩ : ∃ X, wr.setCell ⟨F, 2, none⟩ (.int .i64 (depth : Nat)) = X := ⟨_, rfl⟩
          have XFm := hFr.set depth
          rw [hX] at PX XFm
          have XFm := Lib.hid XFm
          obtain ⟨XF3, XB0, XB1, XZ3, XF2, XV, XK, XG, XKp, XBX⟩ := PX
          clear PRE hFr hGw hR ht htold hFb hd hd1 hd2 hacc hb hrise hG hi hlt htl hF1
          go_upto_region 14 with fail
          clear hX
          have LAW := Lib.hid (show ∀ v6 w6, VO elS w0.heap.size w6 v6 (acc.map Value.string ++ t.ks.map Value.string) → Below w0.heap.size X.drew w6 → X.drew.grownBy w6 kv.ownBlock → (∃ A6 l6 c6, v6 = .slice A6 l6 c6) ∧ w6.frozen? ⟨F, 3, none⟩ = false ∧ w6.cell? ⟨F, 3, none⟩ = some kv ∧ NodeLook ord w0 (some ⟨b, o, none⟩) n c nx w F (depth + 0) (acc ++ keys y.ps) (w6.setCell ⟨F, 3, none⟩ v6) from fun v6 w6 o6 b6 g6 => by
            have F6 : FmAt w6 F (.slice (some ⟨b, o, none⟩) n c) ord depth kv nx true := ⟨XV.out.drew.row_kept g6 (XFm.out.row : X.drew.heap[F]? = _) (by decide)⟩
            have KP6 : Kp w w6 := XKp.out.trans (show Kp X w6 from XV.out.drew.kp g6)
            have G6 : Gw w0 w6 := Below.trans (Gw.drew XG.out) b6
            have xs : Xt F w6 (w6.setCell ⟨F, 3, none⟩ v6) := Xt.set (Gw.refl _) 3 _
            refine ⟨by obtain ⟨A6, c6, h6, -⟩ := o6.form; exact ⟨A6, _, c6, h6⟩, by have := F6.row; simp [World.frozen?, this], by rw [cell_of_row _ _ _ _ _ _ F6.row]; rfl, v6, F6.setK v6, Xt.below G6 xs HFB.out, KP6.trans (xs.kp F6.row), ?_⟩
            rw [List.map_append, ← HKS.out]
            exact o6.xt xs F6.row (by decide))
          have VO1 := Lib.hid XV.out.drew
          have VK1 := Lib.hid XK.out.drew
          have BS1 := Lib.hid (show w0.heap.size ≤ X.drew.heap.size from Below.size (Gw.drew XG.out))
          clear XV XK XG XKp XBX XFm HKS HFB
          go_region_law
            ((refine vs_append elS okS (by rfl) (.tmp 88) (.tmp 90) (by rfl) w0.heap.size kv (acc.map Value.string) (by rfl) VO1.out K i ck (t.ks.map Value.string) (by rfl) VK1.out HSZ.out BS1.out ?_; intro v6 w6 o6 b6 g6; have L6 := LAW.out v6 w6 o6 b6 g6; have z6 := L6.2.1; have q6 := L6.2.2.1; have FIN := Lib.hid L6.2.2.2; obtain ⟨A6, l6, c6, h6⟩ := L6.1; clear o6 b6 g6 L6; subst h6))
          all_goals
            go_wp2
            refine bodyPost_ret (results_none rfl _ _ _) rfl ?_
            exact ⟨rfl, FIN.out⟩
        · obtain rfl : dep = depth := by omega
          have PX := PRE _ hFr ((Gw.refl _).xt F)
          have XFm := Lib.hid hFr
          obtain ⟨XF3, XB0, XB1, XZ3, XF2, XV, XK, XG, XKp, XBX⟩ := PX
          clear PRE hFr hGw hR ht htold hFb hd hd1 hd2 hacc hb hrise hG hi hlt htl hF1
          go_upto_region 14 with fail
          have LAW := Lib.hid (show ∀ v6 w6, VO elS w0.heap.size w6 v6 (acc.map Value.string ++ t.ks.map Value.string) → Below w0.heap.size wr.drew w6 → wr.drew.grownBy w6 kv.ownBlock → (∃ A6 l6 c6, v6 = .slice A6 l6 c6) ∧ w6.frozen? ⟨F, 3, none⟩ = false ∧ w6.cell? ⟨F, 3, none⟩ = some kv ∧ NodeLook ord w0 (some ⟨b, o, none⟩) n c nx w F (dep + 0) (acc ++ keys y.ps) (w6.setCell ⟨F, 3, none⟩ v6) from fun v6 w6 o6 b6 g6 => by
            have F6 : FmAt w6 F (.slice (some ⟨b, o, none⟩) n c) ord dep kv nx true := ⟨XV.out.drew.row_kept g6 (XFm.out.row : wr.drew.heap[F]? = _) (by decide)⟩
            have KP6 : Kp w w6 := XKp.out.trans (show Kp wr w6 from XV.out.drew.kp g6)
            have G6 : Gw w0 w6 := Below.trans (Gw.drew XG.out) b6
            have xs : Xt F w6 (w6.setCell ⟨F, 3, none⟩ v6) := Xt.set (Gw.refl _) 3 _
            refine ⟨by obtain ⟨A6, c6, h6, -⟩ := o6.form; exact ⟨A6, _, c6, h6⟩, by have := F6.row; simp [World.frozen?, this], by rw [cell_of_row _ _ _ _ _ _ F6.row]; rfl, v6, F6.setK v6, Xt.below G6 xs HFB.out, KP6.trans (xs.kp F6.row), ?_⟩
            rw [List.map_append, ← HKS.out]
            exact o6.xt xs F6.row (by decide))
          have VO1 := Lib.hid XV.out.drew
          have VK1 := Lib.hid XK.out.drew
          have BS1 := Lib.hid (show w0.heap.size ≤ wr.drew.heap.size from Below.size (Gw.drew XG.out))
          clear XV XK XG XKp XBX XFm HKS HFB
          go_region_law
            ((refine vs_append elS okS (by rfl) (.tmp 88) (.tmp 90) (by rfl) w0.heap.size kv (acc.map Value.string) (by rfl) VO1.out K i ck (t.ks.map Value.string) (by rfl) VK1.out HSZ.out BS1.out ?_; intro v6 w6 o6 b6 g6; have L6 := LAW.out v6 w6 o6 b6 g6; have z6 := L6.2.1; have q6 := L6.2.2.1; have FIN := Lib.hid L6.2.2.2; obtain ⟨A6, l6, c6, h6⟩ := L6.1; clear o6 b6 g6 L6; subst h6))
          all_goals
            go_wp2
            refine bodyPost_ret (results_none rfl _ _ _) rfl ?_
            exact ⟨rfl, FIN.out⟩
      · obtain ⟨hR, ht, htold, hFb, hd, hd1, hd2, hacc, hb, hrise⟩ := HALL.out
        obtain ⟨ks, kids, ht1, hnum, hmm, hps, htok, hkf, hkR⟩ := htold
        simp only at hmm hps
        have htl : t.leaf = false := by rw [ht1]
        obtain rfl : lf = false := by rw [← HLF.out]; exact htl
        have hks : t.ks = ks := by rw [ht1]
        have hkids : t.kids = List.range' (off L j) kids.length := by rw [ht1]
        have hqk : q = kids.length := by rw [← HQ.out, hkids]; simp
        have hik : i = ks.length := by rw [← HM.out, hks]
        have HBR := Lib.hid ((Below.block hG _ (Array.getElem?_eq_some_iff.1 HA12.out).1).trans HA12.out)
        have HNR := Lib.hid ((Below.block hG _ (Array.getElem?_eq_some_iff.1 HA2.out).1).trans HA2.out)
        have F0 := Lib.hid hFr
        have G0 := Lib.hid (HG0.out.trans hGw)
        have V0 := Lib.hid (HKV.out.gw hGw)
        have KW := Lib.hid hGw.kp
        have INV := Lib.hid (show (dep = 0 ∨ dep = depth + (d + 1)) ∧ 1 ≤ depth ∧ depth + (d + 1) ≤ 1000 ∧ acc.length + y.ps.length ≤ 1048576 from ⟨hd, hd1, hd2, hacc⟩)
        have HTK := Lib.hid (show kids.length = ks.length + 1 ∧ (toks ks kids).Pairwise tr ∧ (∀ y ∈ kids, Fit ord d y.m ∧ y.ps ≠ []) ∧ (∀ p ∈ kidsP kids, inB low high bl ov p.1 = true) ∧ y.ps = kidsP kids from ⟨hnum, htok, hkf, by rw [← hps]; exact hb, hps⟩)
        have HKR := Lib.hid hkR
        have HKS := Lib.hid hks
        have HKD := Lib.hid hkids
        have HQK := Lib.hid hqk
        have HIK := Lib.hid hik
        have HFB := Lib.hid hFb
        have hq65 : (q : Int) ≤ 65 := by omega
        clear hFr hGw hR ht hFb hd hd1 hd2 hacc hb hrise hG hlt htl ht1 hnum hmm hps htok hkf hkR hks hkids hqk hik
        go_upto_region 16 with fail
        clear d0 d1 d2 hB
        go_loopw [10] (fun i' wz => ∃ (k dp : Nat) (kv2 : Value), i' = .int .i64 (k : Nat) ∧ k ≤ q ∧ FmAt wz F (.slice (some ⟨b, o, none⟩) n c) ord dp kv2 nx true ∧ Gw w0 wz ∧ Kp wr wz ∧ VO elS w0.heap.size wz kv2 ((acc ++ keys (kidsP (kids.take k))).map Value.string) ∧ (dp = 0 ∨ dp = depth + (d + 1)) ∧ (0 < k → dp = depth + (d + 1))) (fun i' _ => q - (intOf i').toNat)
        case atStart => exact ⟨0, dep, kv, rfl, Nat.zero_le _, F0.out, G0.out, Kp.refl _, by simpa [kidsP, keys] using V0.out, INV.out.1, fun h => absurd h (by omega)⟩
        case round =>
          rename World => wz
          obtain ⟨k, dp, kv2, rfl, hk, hF2, hG2, hKp2, hV2, hdp, hdk⟩ := hrel
          have hBz := hKp2 _ _ _ _ HBR.out (by decide) (by decide)
          obtain ⟨-, n1, n2⟩ := cell3 (hKp2 _ _ _ _ HNR.out (by decide) (by decide))
          have f5 : wz.cell? ⟨F, 5, none⟩ = some (.bool true) := by rw [cell_of_row _ _ _ _ _ _ hF2.row]; rfl
          have hkb : (k : Int) ≤ 65 := by omega
          by_cases hlt : k < q
          · have i4 : (k : Int) < (q : Int) := by omega
            obtain ⟨y2, hy2⟩ : ∃ y2, kids[k]? = some y2 := ⟨_, List.getElem?_eq_getElem (by have := HQK.out; omega)⟩
            have e0 : wz.cell? ⟨w.heap.size, 0, none⟩ = some (.string low) := by rw [cell_of_row _ _ _ _ _ _ hBz]; rfl
            have e1 : wz.cell? ⟨w.heap.size, 1, none⟩ = some (.string high) := by rw [cell_of_row _ _ _ _ _ _ hBz]; rfl
            have e2 : wz.cell? ⟨w.heap.size, 2, none⟩ = some (.bool bl) := by rw [cell_of_row _ _ _ _ _ _ hBz]; rfl
            have e3 : wz.cell? ⟨w.heap.size, 3, none⟩ = some (.bool ov) := by rw [cell_of_row _ _ _ _ _ _ hBz]; rfl
            obtain ⟨kk, hkk⟩ : ∃ kk, off L j + k = kk := ⟨_, rfl⟩
            obtain ⟨dd, hdd⟩ : ∃ dd, depth + 1 = dd := ⟨_, rfl⟩
            have hop := off_pos L j
            have hiv := INV.out
            have hym := List.mem_of_getElem? hy2
            obtain ⟨hup, hupl⟩ := kids_upto hy2
            have i6 : IntKind.i64.wrap ((depth : Int) + 1) = (dd : Int) := by rw [IntKind.wrap_i64]; omega
            have CALL := fun W (hW : Gw wz W) => IH.out d (by omega) y2 kk dp dd W F kv2 (acc ++ keys (kidsP (kids.take k))) (lowOf ks low k) (highOf ks high k) (decide (0 < k) || bl) (decide (k < ks.length) || ov) (by rw [← hkk]; exact HKR.out k y2 hy2) (.inr ⟨by omega, (HTK.out.2.2.1 y2 hym).1⟩) (kid_rises ks kids HTK.out.1 HTK.out.2.1 y2 hym) (kid_in HTK.out.1 HTK.out.2.1 HTK.out.2.2.2.1 hy2) (hG2.trans hW) (hF2.gw hW) HFB.out (by omega) (by omega) (by omega) (hV2.gw hW) (by rw [List.length_append, keys_len]; have := HTK.out.2.2.2.2; rw [this] at hiv; omega)
            have NEXT := Lib.hid (show ∀ W w', Gw wz W → NodeLook ord w0 (some ⟨b, o, none⟩) n c nx W F (dd + d) ((acc ++ keys (kidsP (kids.take k))) ++ keys y2.ps) w' → ∃ kv3, FmAt w' F (.slice (some ⟨b, o, none⟩) n c) ord (depth + (d + 1)) kv3 nx true ∧ Gw w0 w' ∧ Kp wr w' ∧ VO elS w0.heap.size w' kv3 ((acc ++ keys (kidsP (kids.take (k + 1)))).map Value.string) from fun W w' hW hL => by
              obtain ⟨kv3, q1, q2, q3, q4⟩ := hL
              rw [show dd + d = depth + (d + 1) by omega] at q1
              exact ⟨kv3, q1, q2, (hKp2.trans hW.kp).trans q3, by rw [hup, keys_app, ← List.append_assoc]; exact q4⟩)
            obtain ⟨adB, hadB, cB⟩ := HIA0.out.2 (by omega)
            subst hadB
            have cI0 : w0.cell? (adB.add k) = some (.int .i64 (kk : Int)) := by
              rw [← hkk]
              refine cB k _ ?_
              rw [HKD.out, List.getElem?_range' (by have := HQK.out; omega)]
              simp
            have cI := keep_below cI0 hG2
            obtain ⟨Z, hZ⟩ : ∃ Z, wz.alloc (.cells #[.string low, .string high, .bool bl, .bool ov] 98) = Z := ⟨_, rfl⟩
            have gZ : Gw wz Z := by rw [← hZ]; exact (Gw.refl _).alloc _
            have rZ := heap_alloc_new wz (.cells #[.string low, .string high, .bool bl, .bool ov] 98)
            rw [hZ] at rZ
            have HLT := Lib.hid hlt
            have HDD := Lib.hid hdd
            clear hkk hop hiv hym hup hupl hdp hdk hk hF2 hV2 hKp2 hBz hy2 cB cI0
            rcases Nat.eq_zero_or_pos k with hi0 | hi0
            · by_cases hki : k < i
              · have i5 : ¬ (k : Int) > 0 := by omega
                have i7 : ¬ (0 : Int) < (k : Int) := by omega
                have hlo : lowOf ks low k = low := by unfold lowOf; rw [if_neg (by omega)]
                have hbo : (decide (0 < k) || bl) = bl := by rw [decide_eq_false (by omega)]; rfl
                rw [hlo, hbo] at CALL
                have i9 : (k : Int) < (i : Int) := by omega
                obtain ⟨s2, hs2'⟩ : ∃ s2, ks[k]? = some s2 := ⟨_, List.getElem?_eq_getElem (by have := HIK.out; omega)⟩
                obtain ⟨ad2, hadK2, cs2⟩ := (HVB0.out.gw hG2).at_ (k := k) (u := .string s2) (by rw [HKS.out]; simp [hs2'])
                have hhi : highOf ks high k = s2 := by unfold highOf; rw [if_pos (by have := HIK.out; omega), List.getD_eq_getElem?_getD, hs2']; rfl
                have hov : (decide (k < ks.length) || ov) = true := by rw [decide_eq_true (by have := HIK.out; omega)]; rfl
                rw [hhi, hov] at CALL
                subst hadK2
                have GA := Lib.hid gZ
                have na := keep_below n1 gZ
                have cb2 := keep_below cs2 gZ
                obtain ⟨x01, x11, x21, x31, fr1⟩ := bx_cells rZ
                have f21 := fr1 1
                obtain ⟨rr1, gg1⟩ := bx1 gZ (Nat.le_refl _) rZ (.string s2)
                obtain ⟨Z1, hZ1⟩ : ∃ Z1, Z.setCell ⟨wz.heap.size, 1, none⟩ (.string s2) = Z1 := ⟨_, rfl⟩
                rw [hZ1] at rr1 gg1
                obtain ⟨x02, x12, x22, x32, fr2⟩ := bx_cells rr1
                have f22 := fr2 3
                obtain ⟨rr2, gg2⟩ := bx3 gg1 (Nat.le_refl _) rr1 (.bool true)
                obtain ⟨Z2, hZ2⟩ : ∃ Z2, Z1.setCell ⟨wz.heap.size, 3, none⟩ (.bool true) = Z2 := ⟨_, rfl⟩
                rw [hZ2] at rr2 gg2
                have GL := Lib.hid gg2
                have RL := Lib.hid rr2
                clear hki hlo hbo hhi hov hi0 hs2' cs2 fr1 fr2
                go_upto_region 23 with fail
                have GD := Lib.hid (Gw.drew GL.out)
                have QC := Lib.hid (CALL _ GD.out)
                obtain ⟨b0, b1, b2, b3, -⟩ := bx_cells RL.out
                have r1 := keep_below n2 GL.out
                have r2 := keep_below cI GL.out
                have NX := Lib.hid (fun w' => NEXT.out _ w' GD.out)
                clear CALL NEXT
                refine wp_region_still_tail 9 (by kernel_rfl) (by kernel_rfl) ?_
                simp only [List.take_succ_cons, List.take_zero, List.drop_succ_cons, List.drop_zero]
                change wpStill _ _ (World.drew Z2) _ _ _
                iterate 9 still_step
                refine wpStill_nil ?_
                change wpList _ _ _ _ _ (World.drew Z2)
                clear b0 b1 b2 b3 r1 r2
                go_upto_region 17 with (go_at_call 48; go_loud (refine QC.out.mono ?_; rintro e w9 ⟨rfl, h9⟩; have H9 := Lib.hid (NX.out _ h9); clear h9 QC NX))
                go_wp2
                go_roundw
                case rel =>
                  obtain ⟨kv3, q1, q2, q3, q4⟩ := H9.out
                  exact ⟨k + 1, depth + (d + 1), kv3, by go_num, HLT.out, q1, q2, q3, q4, .inr rfl, fun _ => rfl⟩
                case measure => have := HLT.out; simp [intOf]; omega
              · have i5 : ¬ (k : Int) > 0 := by omega
                have i7 : ¬ (0 : Int) < (k : Int) := by omega
                have hlo : lowOf ks low k = low := by unfold lowOf; rw [if_neg (by omega)]
                have hbo : (decide (0 < k) || bl) = bl := by rw [decide_eq_false (by omega)]; rfl
                rw [hlo, hbo] at CALL
                have i9 : ¬ (k : Int) < (i : Int) := by omega
                have hhi : highOf ks high k = high := by unfold highOf; rw [if_neg (by have := HIK.out; omega)]
                have hov : (decide (k < ks.length) || ov) = ov := by rw [decide_eq_false (by have := HIK.out; omega)]; rfl
                rw [hhi, hov] at CALL
                have GA := Lib.hid gZ
                have na := keep_below n1 gZ
                have GL := Lib.hid gZ
                have RL := Lib.hid rZ
                clear hki hlo hbo hhi hov hi0
                go_upto_region 23 with fail
                have GD := Lib.hid (Gw.drew GL.out)
                have QC := Lib.hid (CALL _ GD.out)
                obtain ⟨b0, b1, b2, b3, -⟩ := bx_cells RL.out
                have r1 := keep_below n2 GL.out
                have r2 := keep_below cI GL.out
                have NX := Lib.hid (fun w' => NEXT.out _ w' GD.out)
                clear CALL NEXT
                refine wp_region_still_tail 9 (by kernel_rfl) (by kernel_rfl) ?_
                simp only [List.take_succ_cons, List.take_zero, List.drop_succ_cons, List.drop_zero]
                change wpStill _ _ (World.drew Z) _ _ _
                iterate 9 still_step
                refine wpStill_nil ?_
                change wpList _ _ _ _ _ (World.drew Z)
                clear b0 b1 b2 b3 r1 r2
                go_upto_region 17 with (go_at_call 48; go_loud (refine QC.out.mono ?_; rintro e w9 ⟨rfl, h9⟩; have H9 := Lib.hid (NX.out _ h9); clear h9 QC NX))
                go_wp2
                go_roundw
                case rel =>
                  obtain ⟨kv3, q1, q2, q3, q4⟩ := H9.out
                  exact ⟨k + 1, depth + (d + 1), kv3, by go_num, HLT.out, q1, q2, q3, q4, .inr rfl, fun _ => rfl⟩
                case measure => have := HLT.out; simp [intOf]; omega
            · by_cases hki : k < i
              · obtain ⟨p, hp⟩ : ∃ p, k = p + 1 := ⟨k - 1, by omega⟩
                have i5 : (k : Int) > 0 := by omega
                have i7 : IntKind.i64.wrap ((k : Int) - 1) = (p : Int) := by rw [IntKind.wrap_i64]; omega
                have hpi : p < i := by have := HIK.out; have := HTK.out.1; have := HQK.out; have := HLT.out; omega
                have i8 : (p : Int) < (i : Int) := by omega
                obtain ⟨s1, hs1'⟩ : ∃ s1, ks[p]? = some s1 := ⟨_, List.getElem?_eq_getElem (by have := HIK.out; omega)⟩
                obtain ⟨ad, hadK, cs1⟩ := (HVB0.out.gw hG2).at_ (k := p) (u := .string s1) (by rw [HKS.out]; simp [hs1'])
                have hlo : lowOf ks low k = s1 := by unfold lowOf; rw [if_pos (by omega), hp, Nat.add_sub_cancel, List.getD_eq_getElem?_getD, hs1']; rfl
                have hbo : (decide (0 < k) || bl) = true := by simp; omega
                rw [hlo, hbo] at CALL
                have i9 : (k : Int) < (i : Int) := by omega
                obtain ⟨s2, hs2'⟩ : ∃ s2, ks[k]? = some s2 := ⟨_, List.getElem?_eq_getElem (by have := HIK.out; omega)⟩
                obtain ⟨ad2, hadK2, cs2⟩ := (HVB0.out.gw hG2).at_ (k := k) (u := .string s2) (by rw [HKS.out]; simp [hs2'])
                have hhi : highOf ks high k = s2 := by unfold highOf; rw [if_pos (by have := HIK.out; omega), List.getD_eq_getElem?_getD, hs2']; rfl
                have hov : (decide (k < ks.length) || ov) = true := by rw [decide_eq_true (by have := HIK.out; omega)]; rfl
                rw [hhi, hov] at CALL
                obtain rfl : ad = ad2 := by rw [hadK] at hadK2; injection hadK2
                subst hadK
                clear hadK2
                have GA := Lib.hid gZ
                have na := keep_below n1 gZ
                have ca := keep_below cs1 gZ
                obtain ⟨x01, x11, x21, x31, fr1⟩ := bx_cells rZ
                have f21 := fr1 0
                obtain ⟨rr1, gg1⟩ := bx0 gZ (Nat.le_refl _) rZ (.string s1)
                obtain ⟨Z1, hZ1⟩ : ∃ Z1, Z.setCell ⟨wz.heap.size, 0, none⟩ (.string s1) = Z1 := ⟨_, rfl⟩
                rw [hZ1] at rr1 gg1
                obtain ⟨x02, x12, x22, x32, fr2⟩ := bx_cells rr1
                have f22 := fr2 2
                obtain ⟨rr2, gg2⟩ := bx2 gg1 (Nat.le_refl _) rr1 (.bool true)
                obtain ⟨Z2, hZ2⟩ : ∃ Z2, Z1.setCell ⟨wz.heap.size, 2, none⟩ (.bool true) = Z2 := ⟨_, rfl⟩
                rw [hZ2] at rr2 gg2
                have nb := keep_below n1 gg2
                have cb2 := keep_below cs2 gg2
                obtain ⟨x03, x13, x23, x33, fr3⟩ := bx_cells rr2
                have f23 := fr3 1
                obtain ⟨rr3, gg3⟩ := bx1 gg2 (Nat.le_refl _) rr2 (.string s2)
                obtain ⟨Z3, hZ3⟩ : ∃ Z3, Z2.setCell ⟨wz.heap.size, 1, none⟩ (.string s2) = Z3 := ⟨_, rfl⟩
                rw [hZ3] at rr3 gg3
                obtain ⟨x04, x14, x24, x34, fr4⟩ := bx_cells rr3
                have f24 := fr4 3
                obtain ⟨rr4, gg4⟩ := bx3 gg3 (Nat.le_refl _) rr3 (.bool true)
                obtain ⟨Z4, hZ4⟩ : ∃ Z4, Z3.setCell ⟨wz.heap.size, 3, none⟩ (.bool true) = Z4 := ⟨_, rfl⟩
                rw [hZ4] at rr4 gg4
                have GL := Lib.hid gg4
                have RL := Lib.hid rr4
                clear hki hlo hbo hhi hov hp hpi hs1' cs1 hi0 hs2' cs2 fr1 fr2 fr3 fr4
                go_upto_region 23 with fail
                have GD := Lib.hid (Gw.drew GL.out)
                have QC := Lib.hid (CALL _ GD.out)
                obtain ⟨b0, b1, b2, b3, -⟩ := bx_cells RL.out
                have r1 := keep_below n2 GL.out
                have r2 := keep_below cI GL.out
                have NX := Lib.hid (fun w' => NEXT.out _ w' GD.out)
                clear CALL NEXT
                refine wp_region_still_tail 9 (by kernel_rfl) (by kernel_rfl) ?_
                simp only [List.take_succ_cons, List.take_zero, List.drop_succ_cons, List.drop_zero]
                change wpStill _ _ (World.drew Z4) _ _ _
                iterate 9 still_step
                refine wpStill_nil ?_
                change wpList _ _ _ _ _ (World.drew Z4)
                clear b0 b1 b2 b3 r1 r2
                go_upto_region 17 with (go_at_call 48; go_loud (refine QC.out.mono ?_; rintro e w9 ⟨rfl, h9⟩; have H9 := Lib.hid (NX.out _ h9); clear h9 QC NX))
                go_wp2
                go_roundw
                case rel =>
                  obtain ⟨kv3, q1, q2, q3, q4⟩ := H9.out
                  exact ⟨k + 1, depth + (d + 1), kv3, by go_num, HLT.out, q1, q2, q3, q4, .inr rfl, fun _ => rfl⟩
                case measure => have := HLT.out; simp [intOf]; omega
              · obtain ⟨p, hp⟩ : ∃ p, k = p + 1 := ⟨k - 1, by omega⟩
                have i5 : (k : Int) > 0 := by omega
                have i7 : IntKind.i64.wrap ((k : Int) - 1) = (p : Int) := by rw [IntKind.wrap_i64]; omega
                have hpi : p < i := by have := HIK.out; have := HTK.out.1; have := HQK.out; have := HLT.out; omega
                have i8 : (p : Int) < (i : Int) := by omega
                obtain ⟨s1, hs1'⟩ : ∃ s1, ks[p]? = some s1 := ⟨_, List.getElem?_eq_getElem (by have := HIK.out; omega)⟩
                obtain ⟨ad, hadK, cs1⟩ := (HVB0.out.gw hG2).at_ (k := p) (u := .string s1) (by rw [HKS.out]; simp [hs1'])
                have hlo : lowOf ks low k = s1 := by unfold lowOf; rw [if_pos (by omega), hp, Nat.add_sub_cancel, List.getD_eq_getElem?_getD, hs1']; rfl
                have hbo : (decide (0 < k) || bl) = true := by simp; omega
                rw [hlo, hbo] at CALL
                have i9 : ¬ (k : Int) < (i : Int) := by omega
                have hhi : highOf ks high k = high := by unfold highOf; rw [if_neg (by have := HIK.out; omega)]
                have hov : (decide (k < ks.length) || ov) = ov := by rw [decide_eq_false (by have := HIK.out; omega)]; rfl
                rw [hhi, hov] at CALL
                subst hadK
                have GA := Lib.hid gZ
                have na := keep_below n1 gZ
                have ca := keep_below cs1 gZ
                obtain ⟨x01, x11, x21, x31, fr1⟩ := bx_cells rZ
                have f21 := fr1 0
                obtain ⟨rr1, gg1⟩ := bx0 gZ (Nat.le_refl _) rZ (.string s1)
                obtain ⟨Z1, hZ1⟩ : ∃ Z1, Z.setCell ⟨wz.heap.size, 0, none⟩ (.string s1) = Z1 := ⟨_, rfl⟩
                rw [hZ1] at rr1 gg1
                obtain ⟨x02, x12, x22, x32, fr2⟩ := bx_cells rr1
                have f22 := fr2 2
                obtain ⟨rr2, gg2⟩ := bx2 gg1 (Nat.le_refl _) rr1 (.bool true)
                obtain ⟨Z2, hZ2⟩ : ∃ Z2, Z1.setCell ⟨wz.heap.size, 2, none⟩ (.bool true) = Z2 := ⟨_, rfl⟩
                rw [hZ2] at rr2 gg2
                have nb := keep_below n1 gg2
                have GL := Lib.hid gg2
                have RL := Lib.hid rr2
                clear hki hlo hbo hhi hov hp hpi hs1' cs1 hi0 fr1 fr2
                go_upto_region 23 with fail
                have GD := Lib.hid (Gw.drew GL.out)
                have QC := Lib.hid (CALL _ GD.out)
                obtain ⟨b0, b1, b2, b3, -⟩ := bx_cells RL.out
                have r1 := keep_below n2 GL.out
                have r2 := keep_below cI GL.out
                have NX := Lib.hid (fun w' => NEXT.out _ w' GD.out)
                clear CALL NEXT
                refine wp_region_still_tail 9 (by kernel_rfl) (by kernel_rfl) ?_
                simp only [List.take_succ_cons, List.take_zero, List.drop_succ_cons, List.drop_zero]
                change wpStill _ _ (World.drew Z2) _ _ _
                iterate 9 still_step
                refine wpStill_nil ?_
                change wpList _ _ _ _ _ (World.drew Z2)
                clear b0 b1 b2 b3 r1 r2
                go_upto_region 17 with (go_at_call 48; go_loud (refine QC.out.mono ?_; rintro e w9 ⟨rfl, h9⟩; have H9 := Lib.hid (NX.out _ h9); clear h9 QC NX))
                go_wp2
                go_roundw
                case rel =>
                  obtain ⟨kv3, q1, q2, q3, q4⟩ := H9.out
                  exact ⟨k + 1, depth + (d + 1), kv3, by go_num, HLT.out, q1, q2, q3, q4, .inr rfl, fun _ => rfl⟩
                case measure => have := HLT.out; simp [intOf]; omega
          · obtain rfl : k = q := by omega
            have i4 : ¬ (k : Int) < (k : Int) := by omega
            have hq1 : 0 < k := by have := HQK.out; have := HTK.out.1; omega
            have FIN := Lib.hid (show NodeLook ord w0 (some ⟨b, o, none⟩) n c nx w F (depth + (d + 1)) (acc ++ keys y.ps) wz from by
              have hall : kids.take k = kids := List.take_of_length_le (by have := HQK.out; omega)
              rw [hall, ← HTK.out.2.2.2.2] at hV2
              exact ⟨kv2, (hdk hq1) ▸ hF2, hG2, KW.out.trans hKp2, hV2⟩)
            clear hdp hdk hk hF2 hV2 hKp2 hBz hlt
            go_wp2
            go_end0
            exact ⟨rfl, FIN.out⟩
end Go.Proofs.Ytlhpoliiojekeaa

/- Form: the reference's look at all that is told of a tree. -/
namespace Go.Proofs.Ytlhpoliiojekeaa
set_option maxRecDepth 100000
open Go.RowKit

set_option maxHeartbeats 8000000 in
theorem wform {w : World} {ord : Nat} {A B : Option Addr} {n c m e : Nat} {L : List TN} {R : List Nd} {root : Nd} (hF : FT ord w A n L R) (hO : Ordered L) (h0 : 0 < n) (hroot : R[0]? = some root) (hm : root.2.m ≤ most ord root.1) (h2 : 1 ≤ root.1 → 2 ≤ root.2.m)
    (hr : Rises (keys root.2.ps)) (hd : root.1 ≤ 900) (hP : PB w B m root.2.ps) (hm2 : m ≤ 1048576) :
    Calls Try.prog 23 #[.slice A n c, .int .i64 (ord : Nat), .slice B m e] w fun e w' => e = .returned (.tuple #[.bool true, .int .i64 ((root.1 + 1 : Nat) : Int)]) ∧ Gw w w' := by
  have CO := Lib.hid (wordered (c := c) hF.nl hF.n4 hO)
  obtain ⟨W1, hW1⟩ : ∃ W1, w.alloc (.cells #[.slice A n c, .int .i64 (ord : Nat), .int .i64 0, .slice none 0 0, .int .i64 0, .bool true] 95) = W1 := ⟨_, rfl⟩
  have ha := heap_alloc_new w (.cells #[.slice A n c, .int .i64 (ord : Nat), .int .i64 0, .slice none 0 0, .int .i64 0, .bool true] 95)
  rw [hW1] at ha
  have G1 := Lib.hid (show Gw w W1 by rw [← hW1]; exact (Gw.refl _).alloc _)
  obtain ⟨d, y⟩ := root
  simp only at hm h2 hr hd hP ⊢
  have hpl : y.ps.length ≤ 1048576 := by rw [hP.1]; exact hm2
  have CN := Lib.hid (wnode (c := c) (nx := 0) hF d y 0 0 1 W1 w.heap.size (.slice none 0 0) [] ⟨#[]⟩ ⟨#[]⟩ false false hroot (.inl ⟨rfl, hm, h2⟩) hr (fun _ _ => rfl) G1.out ⟨ha⟩ (Nat.le_refl _) (.inl rfl) (Nat.le_refl _) (by omega) (VO.nil _ _ _) (by simpa using hpl))
  have HP := Lib.hid hP
  have HL := Lib.hid hP.1
  obtain ⟨dd, hdd⟩ : ∃ dd, 1 + d = dd := ⟨_, rfl⟩
  rw [hdd] at CN
  have HD := Lib.hid (show d + 1 = dd by omega)
  have hn0 : ¬ (n : Int) = 0 := by omega
  have hn1 : 0 < (n : Int) := by omega
  have hmb : (m : Int) ≤ 1048576 := by omega
  clear ha hF hO hroot hm h2 hr hP h0 hdd
  go_enter Try.func23, Try.ntmps23
  go_upto_region 5 with (first
    | (go_at_call 47; go_loud (refine CO.out.mono ?_; rintro e w1 ⟨rfl, hw⟩; replace hw := hw.symm; subst hw; clear CO))
    | (go_at_call 48; go_loud (refine CN.out.mono ?_; rintro e w2 ⟨rfl, kv, q1, q2, q3, q4⟩; have Q1 := Lib.hid q1; have Q2 := Lib.hid q2; have Q4 := Lib.hid q4; clear q1 q2 q3 q4 CN)))
  clear hW1
  have f2 : w2.cell? ⟨w.heap.size, 2, none⟩ = some (.int .i64 (dd : Nat)) := by rw [cell_of_row _ _ _ _ _ _ Q1.out.row]; rfl
  have f3 : w2.cell? ⟨w.heap.size, 3, none⟩ = some kv := by rw [cell_of_row _ _ _ _ _ _ Q1.out.row]; rfl
  have f5 : w2.cell? ⟨w.heap.size, 5, none⟩ = some (.bool true) := by rw [cell_of_row _ _ _ _ _ _ Q1.out.row]; rfl
  obtain ⟨KA, kc, hkv, KV, -, -⟩ := Q4.out.form
  have hkl : (([] ++ keys y.ps).map Value.string).length = m := by rw [List.length_map, List.nil_append, keys_len, HL.out]
  rw [hkl] at hkv KV
  have KV := Lib.hid KV
  subst hkv
  have HP2 := Lib.hid (show PB w2 B m y.ps from ⟨HP.out.1, HP.out.2.gw Q2.out⟩)
  clear hkl HP
  go_upto_region 8 with fail
  go_loopw [9] (fun i' wr => ∃ i : Nat, i' = .int .i64 (i : Nat) ∧ i ≤ m ∧ Gw w2 wr) (fun i' _ => m - (intOf i').toNat)
  case atStart => exact ⟨0, rfl, Nat.zero_le _, Gw.refl _⟩
  case round =>
    rename World => wr
    obtain ⟨i, rfl, hi, hG⟩ := hrel
    have g2 := keep_below f2 hG
    have g3 := keep_below f3 hG
    have HG := Lib.hid hG
    clear hG
    by_cases hlt : i < m
    · obtain ⟨p, hp⟩ : ∃ p, y.ps[i]? = some p := ⟨_, List.getElem?_eq_getElem (by have := HL.out; omega)⟩
      obtain ⟨ad, rfl, c0⟩ := (show PB wr B m y.ps from ⟨HP2.out.1, HP2.out.2.gw HG.out⟩).at_ hp
      obtain ⟨kd, rfl, c1⟩ := (KV.out.gw HG.out).at_ (k := i) (u := .string p.1) (by simp [keys, hp])
      have i1 : (i : Int) < (m : Int) := by omega
      have ib : (i : Int) ≤ 1048576 := by omega
      have HLT := Lib.hid hlt
      clear hp hlt hi
      go_wp2
      go_quiet (fail)
      go_wp2
      go_roundw
      case rel => exact ⟨i + 1, by go_num, HLT.out, HG.out.drewN _⟩
      case measure => have := HLT.out; simp [intOf]; omega
    · obtain rfl : i = m := by omega
      have i1 : ¬ (i : Int) < (i : Int) := by omega
      clear hlt hi
      go_wp2
      go_quiet (fail)
      go_wp2
      go_ret2
      exact ⟨by rw [HD.out]; rfl, Q2.out.trans (HG.out.drewN _)⟩
end Go.Proofs.Ytlhpoliiojekeaa
