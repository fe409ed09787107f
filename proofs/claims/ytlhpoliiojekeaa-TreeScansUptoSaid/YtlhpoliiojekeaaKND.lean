import Derived.Test.YtlhpoliiojekeaaDescribe
import Derived.Test.YtlhpoliiojekeaaHalves
import Derived.Test.YtlhpoliiojekeaaOps
/- The nodes in the order of depths, as plain lists; their list in memory. -/
namespace Go.Proofs.Ytlhpoliiojekeaa
set_option maxRecDepth 100000
open Go.RowKit

/-- A node of the row: its height, and what is below it. -/
abbrev Nd := Nat × Kid
/-- How a node of the row R is told, if its kids are told from a number on. -/
def Told (ord : Nat) (R : List Nd) (x : Nd) (t : TN) (s : Nat) : Prop :=
  match x.1 with
  | 0 => t = ⟨true, keys x.2.ps, []⟩ ∧ x.2.m = x.2.ps.length
  | d + 1 => ∃ ks kids, t = ⟨false, ks, List.range' s kids.length⟩ ∧ kids.length = ks.length + 1 ∧ x.2.m = kids.length ∧ x.2.ps = kidsP kids ∧ (toks ks kids).Pairwise tr ∧ (∀ y ∈ kids, Fit ord d y.m ∧ y.ps ≠ []) ∧ ∀ j y, kids[j]? = some y → R[s + j]? = some (d, y)
theorem Told.more {ord : Nat} {R : List Nd} {x : Nd} {t : TN} {s : Nat} (h : Told ord R x t s) (R' : List Nd) : Told ord (R ++ R') x t s := by
  unfold Told at h ⊢
  split
  · rename_i e; rw [e] at h; exact h
  · rename_i d e
    rw [e] at h
    obtain ⟨ks, kids, h1, h2, h3, h4, h5, h6, h7⟩ := h
    exact ⟨ks, kids, h1, h2, h3, h4, h5, h6, fun j y hy => by rw [List.getElem?_append_left (List.getElem?_eq_some_iff.1 (h7 j y hy)).1]; exact h7 j y hy⟩
/-- How many more nodes there may be. -/
def potc (R : List Nd) : Nat := (R.map fun x => 2 * x.2.ps.length - 2).sum
theorem potc_cons (x : Nd) (R : List Nd) : potc (x :: R) = (2 * x.2.ps.length - 2) + potc R := by simp [potc]
theorem potc_app (R R' : List Nd) : potc (R ++ R') = potc R + potc R' := by simp [potc]
theorem potc_kids (d : Nat) (kids : List Kid) (h : ∀ y ∈ kids, y.ps ≠ []) : potc (kids.map fun y => (d, y)) + 2 * kids.length = 2 * (kidsP kids).length := by
  induction kids with
  | nil => simp [potc, kidsP]
  | cons y K ih =>
    have h1 := ih fun z hz => h z (List.mem_cons_of_mem _ hz)
    have h2 : 1 ≤ y.ps.length := by
      have := h y (List.mem_cons_self ..)
      cases hy : y.ps with
      | nil => exact absurd hy this
      | cons => simp
    rw [List.map_cons, potc_cons, kidsP_cons, List.length_append, List.length_cons]
    simp only
    omega

/-- append onto a list of nodes, with room for many. -/
theorem vn_append {w : World} {ops : Array Oper} {rest : List Oper} {o : Oper} {a : Act} {Q : Exit → Act → World → Prop} (E : El) (hE : E.Ok) (hgd : o.guard = none) (s x : Operand)
    (ho : o.op = .call { callee := .builtin .append, args := #[s, x], argTypes := #[E.t, E.t] })
    (base : Nat) (v : Value) (vs : List Value) (hs : a.eval s = v) (hown : VO E base w v vs) (A : Option Addr) (m c : Nat) (ys : List Value) (hx : a.eval x = .slice A m c) (hr : VB w A m ys)
    (hsz : vs.length + m ≤ 10000000) (hbase : base ≤ w.heap.size)
    (h : ∀ v' w', VO E base w' v' (vs ++ ys) → Below base w w' → w.grownBy w' v.ownBlock → wpList Try.prog ops Q rest (a.put o.dst v') w') : wpList Try.prog ops Q (o :: rest) a w := by
  obtain ⟨i0, hi, hz0, hz1, hz2⟩ := info_parts hE.info
  have hrow : ∀ k, v.ownBlock = some k → base ≤ k := fun k hk => (hown.lt k hk).1
  have hlen := hr.len
  have hb0 := hE.b0
  have hbs := hE.small
  rcases A with _ | ad
  · have hm : m = 0 := by
      rcases Nat.eq_zero_or_pos m with h0 | h0
      · exact h0
      · obtain ⟨ad, e, _⟩ := hr.cell h0
        cases e
    subst hm
    have hy : ys = [] := List.eq_nil_of_length_eq_zero hlen
    subst hy
    refine wpList_plain hgd fun K hK => ?_
    have hrun := run_append_nothing w E.t o.type i0 hE.und hi hown.own c
    unfold Oper.wp
    simp [execOp, ho, resolve, invoke, builtin, hs, hx, hrun, Result.andThen]
    exact hK _ _ (h v w (by simpa using hown) (Below.refl _ _) (World.grownBy.refl w _))
  · refine wpList_append_own w hgd s x E.t ho base E.e i0 E.z 1 E.b hE.und hi hz0 hz1 hz2 (by rw [hE.zc]; rfl) (by decide) v vs.length _ hs hown.own ad m c ys hx (by simpa using hlen) ?_ hr.one
      (by simp only [maxLen]; omega) (by first | omega | (have := Nat.mul_le_mul_left (vs.length + m) hbs; omega)) hbase ?_
    · intro j u hu
      obtain ⟨ad', e, hc⟩ := hr.at_ hu
      injection e with e
      subst e
      exact hc
    · intro v' w' hown' hg _
      refine h v' w' ⟨?_, ?_⟩ (below_of_grown hg hbase hrow) hg
      · rw [List.length_append, hlen]; exact hown'
      · intro z hz
        rcases List.mem_append.1 hz with hz | hz
        · exact hown.one z hz
        · exact hr.one z hz

/-- What is told so far: a node, the slices of its keys and of its kids. -/
structure Tt where
  t : TN
  kv : Value
  zv : Value
def cellsT (L : List Tt) : List Value := L.flatMap fun x => [Value.bool x.t.leaf, x.kv, x.zv]
theorem cellsT_len (L : List Tt) : (cellsT L).length = 3 * L.length := by
  induction L with
  | nil => rfl
  | cons p ps ih => simp only [cellsT, List.flatMap_cons, List.length_append, List.length_cons, List.length_nil] at ih ⊢; omega
theorem cellsT_app (a b : List Tt) : cellsT (a ++ b) = cellsT a ++ cellsT b := by simp [cellsT]
theorem cellsT_at : ∀ (L : List Tt) (j : Nat) (x : Tt), L[j]? = some x → (cellsT L)[3 * j]? = some (.bool x.t.leaf) ∧ (cellsT L)[3 * j + 1]? = some x.kv ∧ (cellsT L)[3 * j + 2]? = some x.zv
  | [], _, _, h => by cases h
  | q :: L, 0, p, h => by cases h; simp [cellsT]
  | q :: L, j + 1, p, h => by
    have := cellsT_at L j p h
    rw [show cellsT (q :: L) = Value.bool q.t.leaf :: q.kv :: q.zv :: cellsT L by simp [cellsT]]
    exact this
theorem info_tn : (Try.prog.info? 62).map (fun i => (i.zero, i.size, i.bytes)) = some (some (.agg #[.bool false, .slice none 0 0, .slice none 0 0]), 3, 56) := by kernel_rfl
/-- The value is a slice of told nodes that owns its row; so do its parts. -/
structure TO (base : Nat) (w : World) (v : Value) (L : List Tt) : Prop where
  own : w.ownsRow base 62 3 v L.length (cellsT L)
  is : ∀ x ∈ L, VO elS base w x.kv (x.t.ks.map Value.string) ∧ VO elK base w x.zv (intsV x.t.kids)
end Go.Proofs.Ytlhpoliiojekeaa

/- The list of told nodes in memory: kept, appended to, read. -/
namespace Go.Proofs.Ytlhpoliiojekeaa
set_option maxRecDepth 100000
open Go.RowKit

theorem own_ne {base size n : Nat} {e : TypeId} {w : World} {v : Value} {xs : List Value} (h : w.ownsRow base e size v n xs) {U : Nat} {cs : Array Value} {e' : TypeId} {fr : Nat × Nat} (hU : w.heap[U]? = some (.cells cs e' fr)) (he : e' ≠ e) : v.ownBlock ≠ some U := by
  intro hb
  rcases h.2 with ⟨rfl, -⟩ | ⟨g, cap, cur, rfl, hg, hh, r⟩
  · simp [Value.ownBlock] at hb
  · simp only [Value.ownBlock, Option.some.injEq] at hb
    rw [hb, hU] at hh
    simp only [Option.some.injEq, Obj.cells.injEq] at hh
    exact he hh.2.1
theorem own_row_kept {base size n : Nat} {e : TypeId} {w w2 : World} {v : Value} {xs : List Value} (h : w.ownsRow base e size v n xs) (hg : w.grownBy w2 v.ownBlock) {U : Nat} {cs : Array Value} {e' : TypeId} {fr : Nat × Nat} (hU : w.heap[U]? = some (.cells cs e' fr)) (he : e' ≠ e) : w2.heap[U]? = some (.cells cs e' fr) :=
  (hg.block U (Array.getElem?_eq_some_iff.1 hU).1 (fun q => own_ne h hU he q.symm)).trans hU
/-- A row of another type is owned as before. -/
theorem own_kept {base size n base' size' n' : Nat} {e e' : TypeId} {w w2 : World} {v v' : Value} {xs xs' : List Value} (h : w.ownsRow base e size v n xs) (hg : w.grownBy w2 v.ownBlock) (h' : w.ownsRow base' e' size' v' n' xs') (he : e' ≠ e) : w2.ownsRow base' e' size' v' n' xs' := by
  refine ⟨h'.1, ?_⟩
  rcases h'.2 with h0 | ⟨g, cap, cur, hv, hgb, hh, r⟩
  · exact .inl h0
  · exact .inr ⟨g, cap, cur, hv, hgb, own_row_kept h hg hh he, r⟩
theorem TO.gw {base : Nat} {w w' : World} {v : Value} {L : List Tt} (h : TO base w v L) (g : Gw w w') : TO base w' v L := by
  refine ⟨h.own.kept (row := none) ⟨Below.os g, Below.tape g, Below.output g, Below.size g, fun k hk _ => Below.block g k hk⟩ ?_, fun x hx => ⟨(h.is x hx).1.gw g, (h.is x hx).2.gw g⟩⟩
  cases hv : v.ownBlock <;> simp
theorem TO.nil (base : Nat) (w : World) : TO base w (.slice none 0 0) [] := ⟨World.ownsRow_nil _ _ _ _, fun x hx => by cases hx⟩
/-- Behind an append to a list of nodes. -/
theorem TO.past {base base' : Nat} {w w2 : World} {v rv : Value} {L : List Tt} {vs : List Value} (h : TO base w v L) (hr : VO elN base' w rv vs) (hg : w.grownBy w2 rv.ownBlock) : TO base w2 v L :=
  ⟨own_kept hr.own hg h.own (by decide), fun x hx => ⟨hr.kept hg (h.is x hx).1 (by decide), hr.kept hg (h.is x hx).2 (by decide)⟩⟩
theorem TO.form {base : Nat} {w : World} {v : Value} {L : List Tt} (h : TO base w v L) : ∃ A c, v = .slice A L.length c ∧ NL w A L.length (L.map Tt.t) ∧ L.length ≤ c := by
  rcases h.own.2 with ⟨rfl, h0⟩ | ⟨g, cap, cur, rfl, _, hh, hc, hm, _, ht⟩
  · have hz : L = [] := List.eq_nil_of_length_eq_zero h0
    subst hz
    exact ⟨none, 0, rfl, ⟨rfl, fun h => absurd h (by simp)⟩, Nat.le_refl _⟩
  · refine ⟨_, cap, rfl, ⟨by simp, fun hn => ⟨g, 0, rfl, fun j t ht => ?_⟩⟩, hc⟩
    rw [List.getElem?_map] at ht
    obtain ⟨x, hx, rfl⟩ := Option.map_eq_some_iff.1 ht
    obtain ⟨q0, q1, q2⟩ := cellsT_at L j x hx
    obtain ⟨h1, h2⟩ := h.is x (List.mem_of_getElem? hx)
    obtain ⟨K, ck, hk, hkv, -, -⟩ := h1.form
    obtain ⟨B, cb, hb, hbv, -⟩ := h2.ints
    have hadd : ∀ i, (⟨g, 0, none⟩ : Addr).add i = ⟨g, i, none⟩ := fun i => by unfold Addr.add; split <;> simp_all
    have hl : (x.t.ks.map Value.string).length = x.t.ks.length := List.length_map ..
    rw [hl] at hk hkv
    have c0 := h.own.cells (g := g) rfl _ _ q0
    have c1 := h.own.cells (g := g) rfl _ _ q1
    have c2 := h.own.cells (g := g) rfl _ _ q2
    rw [hadd] at c0 c1 c2
    refine ⟨K, ck, B, cb, ?_, ?_, ?_, hkv, hbv⟩
    · rw [Nat.zero_add, Nat.mul_comm]; exact c0
    · rw [Nat.zero_add, Nat.mul_comm, ← hk]; exact c1
    · rw [Nat.zero_add, Nat.mul_comm, ← hb]; exact c2

/-- append of a told node. -/
theorem to_append {w : World} {ops : Array Oper} {rest : List Oper} {o : Oper} {a : Act} {Q : Exit → Act → World → Prop} (hgd : o.guard = none) (s x : Operand)
    (ho : o.op = .call { callee := .builtin .append, args := #[s, x], argTypes := #[56, 56] })
    (base : Nat) (v : Value) (L : List Tt) (hs : a.eval s = v) (hown : TO base w v L) (b : Nat) (y : Tt) (hx : a.eval x = .slice (some ⟨b, 0, none⟩) 1 1)
    (h0 : w.cell? ⟨b, 0, none⟩ = some (.bool y.t.leaf)) (h1 : w.cell? ⟨b, 1, none⟩ = some y.kv) (h2 : w.cell? ⟨b, 2, none⟩ = some y.zv) (hk : VO elS base w y.kv (y.t.ks.map Value.string)) (hz : VO elK base w y.zv (intsV y.t.kids))
    (hsz : L.length ≤ 9000000) (hbase : base ≤ w.heap.size)
    (h : ∀ v' w', TO base w' v' (L ++ [y]) → Below base w w' → w.grownBy w' v.ownBlock → wpList Try.prog ops Q rest (a.put o.dst v') w') : wpList Try.prog ops Q (o :: rest) a w := by
  obtain ⟨i0, hi, hz0, hz1, hz2⟩ := info_parts info_tn
  have hrow : ∀ k, v.ownBlock = some k → base ≤ k := fun k hk => (hown.own.lt k hk).1
  have hadd : ∀ i, (⟨b, 0, none⟩ : Addr).add i = ⟨b, i, none⟩ := fun i => by unfold Addr.add; split <;> simp_all
  have hcell : ∀ (E : El) (v : Value) (vs : List Value), VO E base w v vs → v.oneCell' = true := fun E v vs h => by
    rcases h.own.2 with ⟨rfl, -⟩ | ⟨g, cap, cur, rfl, -⟩ <;> rfl
  refine wpList_append_own w hgd s x 56 ho base 62 i0 (.agg #[.bool false, .slice none 0 0, .slice none 0 0]) 3 56 Try.underlying56 hi hz0 hz1 hz2 rfl (by decide) v L.length _ hs hown.own ⟨b, 0, none⟩ 1 1 [.bool y.t.leaf, y.kv, y.zv] hx rfl ?_ ?_
    (by simp only [maxLen]; omega) (by omega) hbase ?_
  · intro j u hu
    rw [hadd]
    rcases j with _ | _ | _ | j
    · cases hu; exact h0
    · cases hu; exact h1
    · cases hu; exact h2
    · simp at hu
  · intro u hu
    simp only [List.mem_cons, List.not_mem_nil, or_false] at hu
    rcases hu with rfl | rfl | rfl
    · rfl
    · exact hcell _ _ _ hk
    · exact hcell _ _ _ hz
  · intro v' w' hown' hg _
    refine h v' w' ⟨?_, fun z hzz => ?_⟩ (below_of_grown hg hbase hrow) hg
    · rw [List.length_append, cellsT_app]; simpa [cellsT] using hown'
    · have key : VO elS base w z.kv (z.t.ks.map Value.string) ∧ VO elK base w z.zv (intsV z.t.kids) := by
        rcases List.mem_append.1 hzz with hzz | hzz
        · exact hown.is z hzz
        · simp only [List.mem_cons, List.not_mem_nil, or_false] at hzz
          subst hzz; exact ⟨hk, hz⟩
      exact ⟨⟨own_kept hown.own hg key.1.own (by decide), key.1.one⟩, ⟨own_kept hown.own hg key.2.own (by decide), key.2.one⟩⟩
end Go.Proofs.Ytlhpoliiojekeaa

/- Nodes: the nodes as they lie. -/
namespace Go.Proofs.Ytlhpoliiojekeaa
set_option maxRecDepth 100000
open Go.RowKit

theorem off_app {L : List TN} (t : TN) {j : Nat} (hj : j ≤ L.length) : off (L ++ [t]) j = off L j := by
  unfold off
  rw [List.take_append_of_le_length hj]
/-- What describe tells of a node. -/
def Descr (ord : Nat) (w : World) (x : Nd) (num : Nat) (t : TN) (ys : List Nd) : Prop :=
  match x.1 with
  | 0 => t = ⟨true, keys x.2.ps, []⟩ ∧ ys = [] ∧ x.2.m = x.2.ps.length
  | d + 1 => ∃ ks kids, t = ⟨false, ks, List.range' num kids.length⟩ ∧ ys = kids.map (fun y => (d, y)) ∧ kids.length = ks.length + 1 ∧ x.2.m = kids.length ∧ x.2.ps = kidsP kids ∧ (toks ks kids).Pairwise tr ∧ ∀ y ∈ kids, NodeAt ord w d y.v y.ps y.m ∧ Fit ord d y.m
theorem wdescribe {ord : Nat} {w : World} {x : Nd} (h : NodeAt ord w x.1 x.2.v x.2.ps x.2.m) (hm : x.2.m ≤ 990) (num : Nat) (hnum : num ≤ 1000000000) :
    ∃ t ys, Descr ord w x num t ys ∧ ∀ W, Gw w W → Calls Try.prog 46 #[x.2.v, .int .i64 (num : Int)] W (DescIs W t (ys.map fun y => y.2.v)) := by
  obtain ⟨d, v, ps, m⟩ := x
  rcases d with _ | d
  · obtain ⟨g, rfl, hl, he⟩ := h
    exact ⟨⟨true, keys ps, []⟩, [], ⟨rfl, rfl, he⟩, fun W hW => wdescL (hl.gw hW) (by have h1 : m ≤ 990 := hm; have h2 : m = ps.length := he; omega) num⟩
  · obtain ⟨g, ks, kids, rfl, he, hC, hF⟩ := h
    refine ⟨⟨false, ks, List.range' num kids.length⟩, kids.map (fun y => (d, y)), ⟨ks, kids, rfl, rfl, hC.num, he, hC.all, hC.tok, fun y hy => ⟨hC.is y hy, hF y hy⟩⟩, fun W hW => ?_⟩
    have := wdescI (hC.gw hW) (by have h1 : m ≤ 990 := hm; have h2 : m = kids.length := he; omega) num hnum
    rw [List.map_map]
    exact this
structure RInv (ord : Nat) (w : World) (root : Nd) (N : Nat) (R : List Nd) (L : List TN) : Prop where
  len : L.length ≤ R.length
  node : ∀ x ∈ R, NodeAt ord w x.1 x.2.v x.2.ps x.2.m ∧ x.2.m ≤ 990 ∧ (1 ≤ x.1 → 2 ≤ x.2.m)
  root : R[0]? = some root
  told : ∀ j x t, R[j]? = some x → L[j]? = some t → Told ord R x t (off L j)
  past : ∀ j t, L[j]? = some t → t.kids ≠ [] → j < off L j
  next : off L L.length = R.length
  pot : R.length + potc (R.drop L.length) ≤ N
theorem RInv.step {ord : Nat} (ho : 3 ≤ ord) (ho2 : ord ≤ 64) {w : World} {root x : Nd} {N : Nat} {R ys : List Nd} {L : List TN} {t : TN} (h : RInv ord w root N R L) (hx : R[L.length]? = some x) (hd : Descr ord w x R.length t ys) : RInv ord w root N (R ++ ys) (L ++ [t]) := by
  have hlt := (List.getElem?_eq_some_iff.1 hx).1
  have hdrop : R.drop L.length = x :: R.drop (L.length + 1) := by
    obtain ⟨h1, rfl⟩ := List.getElem?_eq_some_iff.1 hx
    exact List.drop_eq_getElem_cons h1
  have hnx := (h.node x (List.mem_of_getElem? hx))
  have hpot := h.pot
  rw [hdrop, potc_cons] at hpot
  -- what each kind of node says
  have key : t.kids = List.range' R.length ys.length ∧ Told ord (R ++ ys) x t R.length ∧ ys.length + potc ys ≤ 2 * x.2.ps.length - 2 ∧ (∀ y ∈ ys, NodeAt ord w y.1 y.2.v y.2.ps y.2.m ∧ y.2.m ≤ 990 ∧ (1 ≤ y.1 → 2 ≤ y.2.m)) := by
    obtain ⟨d, v, ps, m⟩ := x
    rcases d with _ | d
    · obtain ⟨rfl, rfl, he⟩ := hd
      exact ⟨rfl, ⟨rfl, he⟩, by simp [potc], fun y hy => by cases hy⟩
    · obtain ⟨ks, kids, rfl, rfl, h1, h2, h3, h4, h5⟩ := hd
      have hne : ∀ y ∈ kids, y.ps ≠ [] := fun y hy => (h5 y hy).1.ne ho ((h5 y hy).2.pos ho)
      have hpk := potc_kids d kids hne
      have h2m := hnx.2.2 (by simp)
      have e2 : m = kids.length := h2
      have e3 : ps = kidsP kids := h3
      have e4 : 2 ≤ m := h2m
      refine ⟨by simp, ⟨ks, kids, rfl, h1, h2, h3, h4, fun y hy => ⟨(h5 y hy).2, hne y hy⟩, fun j y hy => ?_⟩, ?_, fun y hy => ?_⟩
      · rw [List.getElem?_append_right (by omega), Nat.add_sub_cancel_left, List.getElem?_map, hy]; rfl
      · show (kids.map fun y => (d, y)).length + potc (kids.map fun y => (d, y)) ≤ 2 * ps.length - 2
        rw [e3, List.length_map]
        omega
      · obtain ⟨z, hz, rfl⟩ := List.mem_map.1 hy
        refine ⟨(h5 z hz).1, ?_, fun hd1 => ?_⟩
        · have := (h5 z hz).2.2
          unfold most at this
          split at this <;> simp only <;> omega
        · have := (h5 z hz).2.1
          simp only at hd1 ⊢
          unfold most at this
          rw [if_neg (by omega)] at this
          omega
  obtain ⟨k1, k2, k3, k4⟩ := key
  have hL : (L ++ [t]).length = L.length + 1 := by simp
  have hoff : off (L ++ [t]) L.length = R.length := by rw [off_app t (Nat.le_refl _)]; exact h.next
  have hnext : off (L ++ [t]) (L ++ [t]).length = (R ++ ys).length := by
    rw [hL, off_succ (t := t) (by simp), hoff, k1]
    simp
  refine ⟨?_, ?_, ?_, ?_, ?_, hnext, ?_⟩
  · rw [hL, List.length_append]; omega
  · intro y hy
    rcases List.mem_append.1 hy with hy | hy
    · exact h.node y hy
    · exact k4 y hy
  · rw [List.getElem?_append_left (by omega)]; exact h.root
  · intro j y u hy hu
    rcases Nat.lt_or_ge j L.length with hj | hj
    · rw [List.getElem?_append_left (by omega)] at hy
      rw [List.getElem?_append_left hj] at hu
      rw [off_app t (by omega)]
      exact (h.told j y u hy hu).more ys
    · have hjl := (List.getElem?_eq_some_iff.1 hu).1
      have : j = L.length := by omega
      subst this
      rw [List.getElem?_append_left hlt, hx] at hy
      cases hy
      simp at hu
      subst hu
      rw [hoff]; exact k2
  · intro j u hu hne
    rcases Nat.lt_or_ge j L.length with hj | hj
    · rw [List.getElem?_append_left hj] at hu
      rw [off_app t (by omega)]
      exact h.past j u hu hne
    · have hjl := (List.getElem?_eq_some_iff.1 hu).1
      have : j = L.length := by omega
      subst this
      rw [hoff]; exact hlt
  · rw [hL, List.length_append, List.drop_append_of_le_length (by omega), potc_app]
    omega
theorem RInv.start {ord : Nat} {w : World} {root : Nd} (h : NodeAt ord w root.1 root.2.v root.2.ps root.2.m) (hm : root.2.m ≤ 990) (h2 : 1 ≤ root.1 → 2 ≤ root.2.m) : RInv ord w root (2 * root.2.ps.length + 1) [root] [] :=
  ⟨by simp, fun x hx => by simp at hx; subst hx; exact ⟨h, hm, h2⟩, rfl, fun j x t _ ht => by simp at ht, fun j t ht => by simp at ht, rfl, by simp [potc]; omega⟩
theorem RInv.ordered {ord : Nat} {w : World} {root : Nd} {N : Nat} {R : List Nd} {L : List TN} (h : RInv ord w root N R L) (he : L.length = R.length) : Ordered L := by
  refine ⟨fun i t ht => ?_, h.past, by rw [h.next, he]⟩
  have hlt := (List.getElem?_eq_some_iff.1 ht).1
  obtain ⟨x, hx⟩ : ∃ x, R[i]? = some x := ⟨_, List.getElem?_eq_getElem (by omega)⟩
  have := h.told i x t hx ht
  obtain ⟨d, v, ps, m⟩ := x
  rcases d with _ | d
  · rw [this.1]; rfl
  · obtain ⟨ks, kids, rfl, -⟩ := this
    simp
end Go.Proofs.Ytlhpoliiojekeaa

/- Nodes: the walk. -/
namespace Go.Proofs.Ytlhpoliiojekeaa
set_option maxRecDepth 100000
open Go.RowKit

def rowV (R : List Nd) : List Value := R.map fun x => x.2.v
theorem VB.kept {base size k n : Nat} {e : TypeId} {w w2 : World} {v : Value} {xs : List Value} {A : Option Addr} {vs : List Value} (hv : VB w A n vs) (h : w.ownsRow base e size v k xs) (hg : w.grownBy w2 v.ownBlock) (he : ¬ ET e) : VB w2 A n vs :=
  ⟨hv.len, hv.one, fun hn => by
    obtain ⟨ad, ea, nt, hc⟩ := hv.cell hn
    obtain ⟨u, hu⟩ : ∃ u, vs[0]? = some u := ⟨_, List.getElem?_eq_getElem (by rw [hv.len]; exact hn)⟩
    have hlt : ad.block < w.heap.size := by
      have := World.block_lt_of_cell? w _ (hc 0 u hu)
      rw [block_add] at this; exact this
    have hne : v.ownBlock ≠ some ad.block := by
      intro hb
      rcases h.2 with ⟨rfl, -⟩ | ⟨g, cap, cur, rfl, hgg, hh, r⟩
      · simp [Value.ownBlock] at hb
      · simp only [Value.ownBlock, Option.some.injEq] at hb
        rw [hb] at hh
        exact he (nt _ _ _ hh)
    have hblk := hg.block ad.block hlt (fun q => hne q.symm)
    exact ⟨ad, ea, nt.keep hblk, fun j u hj => (World.cell?_of_block (w := w) (by rw [block_add]; exact hblk)).trans (hc j u hj)⟩⟩
/-- What Nodes hands back. -/
def NodesIs (w : World) (ord : Nat) (ps : List Pr) (e : Ending) (w' : World) : Prop :=
  ∃ v L R root, e = .returned v ∧ TO w.heap.size w' v L ∧ L.length = R.length ∧ RInv ord w root (2 * ps.length + 1) R (L.map Tt.t) ∧ root.2.ps = ps ∧ root.2.m ≤ most ord root.1 ∧ Below w.heap.size w w'

set_option maxHeartbeats 16000000 in
theorem wnodes {w : World} {T ord : Nat} {ps : List Pr} (h : TreeAt w T ord ps) (hp : ps.length ≤ 4000000) :
    Calls Try.prog 22 #[.pointer (some ⟨T, 0, none⟩)] w (NodesIs w ord ps) := by
  have CM := Lib.hid (wmade h)
  obtain ⟨v, d, m, h1, h2, hr, hm, h2m, ho, ho2⟩ := h
  have c1 := h1.c1
  obtain ⟨tt, gg, hv⟩ := h2.form
  have hmo : most ord d ≤ 64 := by unfold most; split <;> omega
  obtain ⟨root, hroot⟩ : ∃ root : Nd, root = (d, ⟨v, ps, m⟩) := ⟨_, rfl⟩
  have RI0 := Lib.hid (show RInv ord w root (2 * ps.length + 1) [root] [] by subst hroot; exact RInv.start (root := (d, ⟨v, ps, m⟩)) h2 (by show m ≤ 990; omega) h2m)
  have RT := Lib.hid (show root.2.v = v ∧ root.2.ps = ps ∧ root.2.m ≤ most ord root.1 by subst hroot; exact ⟨rfl, rfl, hm⟩)
  have HPL := Lib.hid hp
  have HO := Lib.hid (show 3 ≤ ord ∧ ord ≤ 64 from ⟨ho, ho2⟩)
  subst hv
  obtain ⟨W, hW⟩ : ∃ W, w.alloc (.cells #[.iface tt (.pointer (some ⟨gg, 0, none⟩))] 80) = W := ⟨_, rfl⟩
  have G0 := Lib.hid (show Gw w W by rw [← hW]; exact (Gw.refl _).alloc _)
  have O0 : Hid (VO elN w.heap.size W (.slice (some ⟨w.heap.size, 0, none⟩) 1 1) (rowV [root])) := Lib.hid (by
    have e : rowV [root] = [.iface tt (.pointer (some ⟨gg, 0, none⟩))] := by simp [rowV, RT.out.1]
    rw [e]
    exact ⟨⟨by simp, .inr ⟨w.heap.size, 1, _, rfl, Nat.le_refl _, by rw [← hW]; exact heap_alloc_new w _, Nat.le_refl _, by simp [maxLen], by simp, by simp⟩⟩, by simp; rfl⟩)
  clear h1 h2 hr hm h2m hroot hmo ho ho2
  go_enter Try.func22, Try.ntmps22
  go_upto_region 6 with (go_at_call 36; refine CM.out.mono ?_; rintro e w1 ⟨rfl, hw⟩; replace hw := hw.symm; subst hw; clear CM)
  clear hW c1
  go_loopw [3, 4, 5] (fun rv tv i' wr => ∃ (R : List Nd) (L : List Tt) (A : Option Addr) (c : Nat), i' = .int .i64 (L.length : Nat) ∧ rv = .slice A R.length c ∧ VO elN w.heap.size wr (.slice A R.length c) (rowV R) ∧ TO w.heap.size wr tv L ∧ Gw w wr ∧ RInv ord w root (2 * ps.length + 1) R (L.map Tt.t)) (fun _ _ i' _ => 2 * ps.length + 1 - (intOf i').toNat)
  case atStart => exact ⟨[root], [], _, 1, rfl, rfl, O0.out, TO.nil _ _, G0.out, RI0.out⟩
  case round =>
    rename World => wr
    obtain ⟨R, L, A, c, rfl, rfl, hR, hT, hG, hI⟩ := hrel
    have hll : (L.map Tt.t).length = L.length := List.length_map ..
    have hlen := hI.len
    have hpot := hI.pot
    have hpl := HPL.out
    rw [hll] at hlen
    by_cases hlt : L.length < R.length
    · obtain ⟨x, hx⟩ : ∃ x, R[L.length]? = some x := ⟨_, List.getElem?_eq_getElem hlt⟩
      have hn := hI.node x (List.mem_of_getElem? hx)
      have hf := hR.form
      obtain ⟨A', c', hf1, hvb, -, -⟩ := hf
      have hrl : (rowV R).length = R.length := by simp [rowV]
      rw [hrl] at hvb hf1
      obtain ⟨rfl, rfl⟩ : A' = A ∧ c' = c := by injection hf1 with e1 e2 e3; exact ⟨e1.symm, e3.symm⟩
      obtain ⟨ad, rfl, cx⟩ := hvb.at_ (k := L.length) (u := x.2.v) (by simp [rowV, hx])
      obtain ⟨tt2, g2, hxv⟩ := hn.1.form
      obtain ⟨t, ys, hd, hcall⟩ := wdescribe hn.1 hn.2.1 R.length (by omega)
      have CD := Lib.hid hcall
      have HSTEP := Lib.hid (hI.step HO.out.1 HO.out.2 (by rw [hll]; exact hx) hd)
      have hys : R.length + ys.length ≤ 9000000 := by
        have h9 := HSTEP.out.pot
        rw [List.length_append] at h9
        omega
      rw [hxv] at cx CD
      have i1 : (L.length : Int) < (R.length : Int) := by omega
      have lb : (L.length : Int) ≤ 9000000 := by omega
      have HR := Lib.hid hR
      have HT := Lib.hid hT
      have HG := Lib.hid hG
      have HYS := Lib.hid hys
      have HRL := Lib.hid hrl
      have HLT := Lib.hid hlt
      clear hx hn hvb hf1 hd hcall hI hll hlen hpot hpl hys hrl hR hT hG hlt hxv
      go_upto_region 9 with (go_at_call 46; go_loud (refine (CD.out _ HG.out).mono ?_; rintro e w8 ⟨kv, zv, C, cc, rfl, ok, oz, vb, hcc, b8⟩; obtain ⟨K, ck, hkv, -, -, -⟩ := ok.form; obtain ⟨Z, cz, hzv, -, -⟩ := oz.ints; subst hkv; subst hzv; have OK8 := Lib.hid ok; have OZ8 := Lib.hid oz; have VB8 := Lib.hid vb; have B8 := Lib.hid (show Gw wr w8 from b8); clear ok oz vb b8))
      have XTRA := Lib.hid (show ∀ c9 : Array Value, c9 = #[.bool t.leaf, .slice K t.ks.length ck, .slice Z t.kids.length cz] → ∀ W10, W10 = (w8.alloc (.cells c9 62)).alloc (.cells c9 62) →
          W10.cell? ⟨w8.heap.size + 1, 0, none⟩ = some (.bool t.leaf) ∧ W10.cell? ⟨w8.heap.size + 1, 1, none⟩ = some (.slice K t.ks.length ck) ∧ W10.cell? ⟨w8.heap.size + 1, 2, none⟩ = some (.slice Z t.kids.length cz) ∧
          VO elS w.heap.size W10 (.slice K t.ks.length ck) (t.ks.map Value.string) ∧ VO elK w.heap.size W10 (.slice Z t.kids.length cz) (intsV t.kids) ∧ TO w.heap.size W10 u4 L ∧ VO elN w.heap.size W10 (.slice (some ad) R.length c') (rowV R) ∧ VB W10 C ys.length (rowV ys) ∧ Gw w W10 from fun c9 h9 W10 h10 => by
        subst h9
        have ha := heap_alloc_new (w8.alloc (.cells #[.bool t.leaf, .slice K t.ks.length ck, .slice Z t.kids.length cz] 62)) (.cells #[.bool t.leaf, .slice K t.ks.length ck, .slice Z t.kids.length cz] 62)
        rw [← h10, show (w8.alloc (.cells #[.bool t.leaf, .slice K t.ks.length ck, .slice Z t.kids.length cz] 62)).heap.size = w8.heap.size + 1 by simp] at ha
        have g8 : Gw w8 W10 := by rw [h10]; exact ((Gw.refl _).alloc _).alloc _
        have gr := B8.out.trans g8
        have hk := (OK8.out.mono (Below.size HG.out)).gw g8
        rw [List.length_map] at hk
        exact ⟨(cell3 ha).1, (cell3 ha).2.1, (cell3 ha).2.2, hk, (OZ8.out.mono (Below.size HG.out)).gw g8, HT.out.gw gr, HR.out.gw gr, by have := VB8.out.gw g8; simpa [rowV] using this, HG.out.trans gr⟩)
      go_upto_region 10 with (at_builtin; go_loud (obtain ⟨a0, a1, a2, a3, a4, a5, a6, a7, a8⟩ := XTRA.out _ rfl _ rfl; refine to_append (by rfl) (.tmp 32) (.tmp 34) (by rfl) w.heap.size u4 L (by rfl) a5 (w8.heap.size + 1) ⟨t, .slice K t.ks.length ck, .slice Z t.kids.length cz⟩ (by rfl) a0 a1 a2 a3 a4 (by have := HYS.out; have := HLT.out; omega) (Below.size a8) ?_; intro v11 w11 o11 b11 g11; have O11 := Lib.hid o11; have R11 := Lib.hid (own_kept a5.own g11 a6.own (by decide)); have RO11 := Lib.hid a6.one; have B11 := Lib.hid (show Gw w w11 from Below.trans a8 b11); have V11 := Lib.hid (a7.kept a5.own g11 (by decide)); have G11 := Lib.hid g11; clear o11 b11 g11 a0 a1 a2 a3 a4 a7))
      go_wp2_with (at_builtin; go_loud (refine vn_append elN okN (by rfl) (.tmp 36) (.tmp 37) (by rfl) w.heap.size (.slice (some ad) R.length c') (rowV R) (by rfl) ⟨R11.out, RO11.out⟩ C ys.length cc (rowV ys) (by rfl) V11.out (by have := HYS.out; have := HRL.out; omega) (Below.size B11.out) ?_; intro v12 w12 o12 b12 g12; have T12 := Lib.hid (O11.out.past ⟨R11.out, RO11.out⟩ g12); obtain ⟨A12, c12, hv12, -, -, -⟩ := o12.form; obtain ⟨ln, hln⟩ : ∃ ln, (rowV R ++ rowV ys).length = ln := ⟨_, rfl⟩; rw [hln] at hv12; have HLN := Lib.hid (show ln = (R ++ ys).length by rw [← hln]; simp [rowV]); clear hln; subst hv12; have O12 := Lib.hid o12; have B12 := Lib.hid (show Gw w w12 from Below.trans B11.out b12); clear o12 b12 g12))
      go_roundw
      case rel => exact ⟨R ++ ys, L ++ [⟨t, .slice K t.ks.length ck, .slice Z t.kids.length cz⟩], A12, c12, by simp, by rw [HLN.out], by rw [show rowV (R ++ ys) = rowV R ++ rowV ys by simp [rowV], ← HLN.out]; exact O12.out, T12.out, B12.out, by simpa using HSTEP.out⟩
      case measure =>
        have h9 := HSTEP.out.pot
        have h8 := HLT.out
        rw [List.length_append] at h9
        simp [intOf]
        omega
    · have hEq : L.length = R.length := by omega
      have i1 : ¬ (L.length : Int) < (R.length : Int) := by omega
      have FIN := Lib.hid (show NodesIs w ord ps (.returned u4) wr from ⟨u4, L, R, root, rfl, hT, hEq, hI, RT.out.2.1, RT.out.2.2, hG⟩)
      clear hT hR hI hlt hll hlen hpot hpl hEq
      go_wp2
      go_ret
      exact FIN.out
end Go.Proofs.Ytlhpoliiojekeaa
