import Derived.Test.YtknppiebncdjmaaGreatProg
import Derived.Test.YtknppiebncdjmaaGreatJAA
import Derived.Test.YtknppiebncdjmaaGreatJAB
import Derived.Laws.AppendOwnNone
import Derived.Deep.AppendLies
import Derived.Maps.AppendAt
import Derived.ProofKit
import Derived.Lib.AppendZerosOnto
import Derived.Deep.Cut
import Derived.Lib.SliceRun
import Derived.Deep.RegionWith
import Derived.Deep.RegionHeld3
import Derived.Deep.RegionLaw
import Derived.BigQuiet
import Derived.LoopTactic
import Derived.Laws.StructEq
import Derived.Deep.DeepAppendWide
import Derived.WalkLawsBesides
import Derived.StillTail
import Derived.StillTactics
set_option linter.unusedVariables false
namespace Go.Proofs.YtknppiebncdjmaaGreat
set_option maxRecDepth 100000
open Go.RowKit

structure SB (w : World) (A : Option Addr) (m : Nat) (vs : List Value) : Prop where
  len : vs.length = m
  one : ∀ u ∈ vs, u.oneCell' = true
  cell : 0 < m → ∃ g o, A = some ⟨g, o, none⟩ ∧ ∀ (j : Nat) u, vs[j]? = some u → w.cell? ⟨g, o + j, none⟩ = some u
theorem SB.at_ {w : World} {A : Option Addr} {m : Nat} {vs : List Value} {k : Nat} {u : Value} (h : SB w A m vs) (hk : vs[k]? = some u) : ∃ g o, A = some ⟨g, o, none⟩ ∧ w.cell? ⟨g, o + k, none⟩ = some u := by
  have hlt : k < vs.length := by
    rcases Nat.lt_or_ge k vs.length with h1 | h1
    · exact h1
    · rw [List.getElem?_eq_none h1] at hk; cases hk
  obtain ⟨g, o, e, hc⟩ := h.cell (by have := h.len; omega)
  exact ⟨g, o, e, hc k u hk⟩
theorem SB.gw {w w' : World} {A : Option Addr} {m : Nat} {vs : List Value} (h : SB w A m vs) (hb : Below w.heap.size w w') : SB w' A m vs :=
  ⟨h.len, h.one, fun h0 => by
    obtain ⟨g, o, e, hc⟩ := h.cell h0
    exact ⟨g, o, e, fun j u hj => keep_below (hc j u hj) hb⟩⟩
theorem SB.empty (w : World) (A : Option Addr) : SB w A 0 [] := ⟨rfl, by simp, fun h => absurd h (by omega)⟩

structure SEl where
  t : TypeId
  e : TypeId
  z : Value
  s : Nat
  b : Nat
structure SEl.Ok (E : SEl) : Prop where
  und : Tryz.prog.underlying E.t = some (.slice E.e)
  el : Tryz.prog.elem E.t = E.e
  info : (Tryz.prog.info? E.e).map (fun i => (i.zero, i.size, i.bytes)) = some (some E.z, E.s, E.b)
  zc : E.z.cells.size = E.s
  s0 : 0 < E.s
  b1 : E.b ≤ 4096
def seN : SEl := ⟨75, 2, .int .i64 0, 1, 8⟩
theorem seN_ok : seN.Ok := ⟨by kernel_rfl, by kernel_rfl, by kernel_rfl, by decide, by decide, by decide⟩

structure SO (E : SEl) (base : Nat) (w : World) (v : Value) (n : Nat) (vs : List Value) : Prop where
  own : w.ownsRow base E.e E.s v n vs
  len : vs.length = E.s * n
  one : ∀ u ∈ vs, u.oneCell' = true
section
variable {E : SEl} {base n : Nat} {w w' : World} {v : Value} {vs : List Value}
theorem SO.nil (E : SEl) (base : Nat) (w : World) : SO E base w (.slice none 0 0) 0 [] := ⟨World.ownsRow_nil _ _ _ _, by simp, by simp⟩
theorem SO.form (h : SO E base w v n vs) : ∃ A c, v = .slice A n c ∧ SB w A (E.s * n) vs ∧ n ≤ c ∧ c ≤ maxLen ∧ ∀ ad, A = some ad → base ≤ ad.block := by
  rcases h.own.2 with ⟨rfl, h0⟩ | ⟨g, cap, cur, rfl, _, hh, hc, hm, _, ht⟩
  · have hz : n = 0 := h0
    subst hz
    exact ⟨none, 0, rfl, ⟨h.len, h.one, fun h => absurd h (by omega)⟩, Nat.le_refl _, by simp [maxLen], by simp⟩
  · refine ⟨_, cap, rfl, ⟨h.len, h.one, fun hn => ⟨g, 0, rfl, fun j u hj => ?_⟩⟩, hc, hm, fun ad e => ?_⟩
    · have := World.ownsRow.cells h.own (g := g) rfl j u hj
      have hadd : (⟨g, 0, none⟩ : Addr).add j = ⟨g, 0 + j, none⟩ := by unfold Addr.add; split <;> simp_all
      rw [← hadd]; exact this
    · cases e; exact (h.own.lt g rfl).1
theorem SO.alloc (h : SO E base w v n vs) (o : Obj) : SO E base (w.alloc o) v n vs := ⟨h.own.alloc o, h.len, h.one⟩
theorem SO.drew (h : SO E base w v n vs) : SO E base w.drew v n vs := ⟨h.own.drew, h.len, h.one⟩
theorem SO.below (h : SO E base w v n vs) (hb : Below w.heap.size w w') : SO E base w' v n vs := by
  refine ⟨h.own.kept (row := none) ⟨hb.os, hb.tape, hb.output, hb.size, fun k hk _ => hb.block k hk⟩ ?_, h.len, h.one⟩
  cases hv : v.ownBlock <;> simp
theorem SB.addr {A : Option Addr} {m : Nat} (h : SB w A m vs) (h0 : 0 < m) : ∃ g o, A = some ⟨g, o, none⟩ ∧ ∀ j u, vs[j]? = some u → w.cell? ((⟨g, o, none⟩ : Addr).add j) = some u := by
  obtain ⟨g, o, e, hc⟩ := h.cell h0
  refine ⟨g, o, e, fun j u hj => ?_⟩
  have hadd : (⟨g, o, none⟩ : Addr).add j = ⟨g, o + j, none⟩ := by unfold Addr.add; split <;> simp_all
  rw [hadd]; exact hc j u hj

theorem below_of_grown8 {w1 : World} {base : Nat} {v : Value} (hg : w.grownBy w' v.ownBlock) (hb : base ≤ w.heap.size) (hv : ∀ k, v.ownBlock = some k → base ≤ k) : Below base w w' :=
  (Below.refl base w).grown hg hb hv

theorem wp_so (hE : E.Ok) {o : Oper} {a : Act} {K : Act → World → Prop} {Q : Exit → Act → World → Prop} (s x : Operand)
    (ho : o.op = .call { callee := .builtin .append, args := #[s, x], argTypes := #[E.t, E.t] })
    (v : Value) (hs : a.eval s = v) (hown : SO E base w v n vs) (A : Option Addr) (m c : Nat) (us : List Value) (hx : a.eval x = .slice A m c) (hr : SB w A (E.s * m) us)
    (hsz : n + m ≤ 10000000) (hbase : base ≤ w.heap.size)
    (h : ∀ v' w', SO E base w' v' (n + m) (vs ++ us) → Below base w w' → K (a.put o.dst v') w') : o.wp Tryz.prog a w K Q := by
  obtain ⟨i0, hi, hz0, hz1, hz2⟩ := info_parts hE.info
  have hrow : ∀ k, v.ownBlock = some k → base ≤ k := fun k hk => (hown.own.lt k hk).1
  have hs0 := hE.s0
  have hb1 := hE.b1
  rcases A with _ | ad
  · have hm : m = 0 := by
      rcases Nat.eq_zero_or_pos m with h0 | h0
      · exact h0
      · obtain ⟨g, q, e, -⟩ := hr.cell (Nat.mul_pos hs0 h0)
        cases e
    subst hm
    have hy : us = [] := List.eq_nil_of_length_eq_zero (by rw [hr.len]; simp)
    subst hy
    have hrun := run_append_nothing w E.t o.type i0 hE.und hi hown.own c
    unfold Oper.wp
    simp [execOp, ho, resolve, invoke, builtin, hs, hx, hrun, Result.andThen]
    exact h v w (by simpa using hown) (Below.refl _ _)
  · have hcell : ∀ j u, us[j]? = some u → w.cell? (ad.add j) = some u := by
      rcases Nat.eq_zero_or_pos m with h0 | h0
      · intro j u hj
        have hy : us = [] := List.eq_nil_of_length_eq_zero (by rw [hr.len, h0]; simp)
        subst hy
        simp at hj
      · obtain ⟨g, q, e, hcell⟩ := hr.addr (Nat.mul_pos hs0 h0)
        cases e
        exact hcell
    refine wp_append_own w s x E.t ho base E.e i0 E.z E.s E.b hE.und hi hz0 hz1 hz2 hE.zc hs0 v n vs hs hown.own ad m c us hx (by rw [hr.len, Nat.mul_comm]) hcell hr.one (by simp only [maxLen]; omega) ?_ hbase ?_
    · exact Nat.le_trans (Nat.mul_le_mul hsz hb1) (by omega)
    · intro v' w' hown' hg _
      exact h v' w' ⟨hown', by rw [List.length_append, hown.len, hr.len, ← Nat.mul_add], fun u hu => by
        rcases List.mem_append.1 hu with h1 | h1
        · exact hown.one u h1
        · exact hr.one u h1⟩ (below_of_grown8 (w1 := w) hg hbase hrow)
theorem so_append (hE : E.Ok) {ops : Array Oper} {rest : List Oper} {o : Oper} {a : Act} {Q : Exit → Act → World → Prop} (hgd : o.guard = none) (s x : Operand)
    (ho : o.op = .call { callee := .builtin .append, args := #[s, x], argTypes := #[E.t, E.t] })
    (v : Value) (hs : a.eval s = v) (hown : SO E base w v n vs) (A : Option Addr) (m c : Nat) (us : List Value) (hx : a.eval x = .slice A m c) (hr : SB w A (E.s * m) us)
    (hsz : n + m ≤ 10000000) (hbase : base ≤ w.heap.size)
    (h : ∀ v' w', SO E base w' v' (n + m) (vs ++ us) → Below base w w' → wpList Tryz.prog ops Q rest (a.put o.dst v') w') : wpList Tryz.prog ops Q (o :: rest) a w :=
  wpList_plain hgd fun _ hK => wp_so hE s x ho v hs hown A m c us hx hr hsz hbase fun v' w' h1 h2 => hK _ _ (h v' w' h1 h2)
theorem so_step (hE : E.Ok) {ops : Array Oper} {o : Oper} {a : Act} {K : Act → World → Prop} {Q : Exit → Act → World → Prop} {Z : Prop} (hgd : o.guard = none) (s x : Operand)
    (ho : o.op = .call { callee := .builtin .append, args := #[s, x], argTypes := #[E.t, E.t] })
    (v : Value) (hs : a.eval s = v) (hown : SO E base w v n vs) (A : Option Addr) (m c : Nat) (us : List Value) (hx : a.eval x = .slice A m c) (hr : SB w A (E.s * m) us)
    (hsz : n + m ≤ 10000000) (hbase : base ≤ w.heap.size)
    (h : ∀ v' w', SO E base w' v' (n + m) (vs ++ us) → Below base w w' → K (a.put o.dst v') w') : if Region.wanted o (yielded ops a.tmps) = true then Oper.wp Tryz.prog o a w K Q else Z := by
  rw [if_pos (by simp [Region.wanted, hgd])]
  exact wp_so hE s x ho v hs hown A m c us hx hr hsz hbase h
end
theorem SB.take {w : World} {A : Option Addr} {m k : Nat} {vs : List Value} (h : SB w A m vs) (hk : k ≤ m) : SB w A k (vs.take k) := by
  refine ⟨by rw [List.length_take, h.len]; omega, fun z hz => h.one z (List.mem_of_mem_take hz), fun hn => ?_⟩
  obtain ⟨g, o, e, hcell⟩ := h.cell (by omega)
  refine ⟨g, o, e, fun j u hj => hcell j u ?_⟩
  rw [List.getElem?_take] at hj
  split at hj
  · exact hj
  · cases hj
def numC (l : List Int) : List Value := l.map (.int .i64)
theorem numC_len (l : List Int) : (numC l).length = l.length := by simp [numC]
theorem numC_at {l : List Int} {j : Nat} {x : Int} (h : l[j]? = some x) : (numC l)[j]? = some (.int .i64 x) := by simp [numC, h]
def plN (l : List Int) (x : Int) : Nat := (l.takeWhile (decide <| · < x)).length
def insN (l : List Int) (x : Int) : List Int := if l[plN l x]? = some x then l else l.take (plN l x) ++ [x] ++ l.drop (plN l x)
def riseP (l : List Int) : List Int := l.foldl insN []
theorem plN_le (l : List Int) (x : Int) : plN l x ≤ l.length := (List.takeWhile_prefix _).length_le
theorem plN_below : ∀ (l : List Int) (x : Int) (j : Nat) (a : Int), j < plN l x → l[j]? = some a → a < x
  | [], x, j, a, h, _ => by simp [plN] at h
  | b :: l, x, j, a, h, ha => by
    unfold plN at h
    by_cases hb : b < x
    · rw [List.takeWhile_cons_of_pos (by simpa using hb)] at h
      cases j with
      | zero => cases ha; exact hb
      | succ j => exact plN_below l x j a (by simpa [plN] using h) ha
    · rw [List.takeWhile_cons_of_neg (by simpa using hb)] at h
      simp at h
theorem plN_at : ∀ (l : List Int) (x a : Int), l[plN l x]? = some a → ¬ a < x
  | [], x, a, h => by simp [plN] at h
  | b :: l, x, a, h => by
    unfold plN at h
    by_cases hb : b < x
    · rw [List.takeWhile_cons_of_pos (by simpa using hb)] at h
      exact plN_at l x a (by simpa [plN] using h)
    · rw [List.takeWhile_cons_of_neg (by simpa using hb)] at h
      simp at h; subst h; exact hb
theorem insN_len (l : List Int) (x : Int) : (insN l x).length ≤ l.length + 1 := by
  unfold insN
  have := plN_le l x
  split <;> simp; omega
theorem rise_len (l : List Int) (j : Nat) : (riseP (l.take j)).length ≤ l.length := by
  have : ∀ (l out : List Int), (l.foldl insN out).length ≤ out.length + l.length := by
    intro l
    induction l with
    | nil => intro out; simp
    | cons x l ih => intro out; have h1 := ih (insN out x); have h2 := insN_len out x; simp only [List.foldl_cons, List.length_cons]; omega
  have h1 := this (l.take j) []
  have h2 := List.length_take_le' j l
  unfold riseP
  simp only [List.length_nil] at h1
  omega
theorem numC_one (l : List Int) : ∀ u ∈ numC l, u.oneCell' = true := by
  intro u hu
  simp only [numC, List.mem_map] at hu
  obtain ⟨x, -, rfl⟩ := hu
  rfl
theorem sb_num (X : World) (x : Int) : SB (X.alloc (.cells #[.int .i64 x] 2)) (some ⟨X.heap.size, 0, none⟩) (seN.s * 1) (numC [x]) := by
  refine ⟨rfl, numC_one _, fun _ => ⟨X.heap.size, 0, rfl, fun j u hj => ?_⟩⟩
  rw [cell_of_row _ _ _ _ _ _ (heap_alloc_new X (.cells #[.int .i64 x] 2))]
  simpa [numC] using hj

theorem SO.base {E : SEl} {base base' n n' : Nat} {w : World} {v : Value} {vs vs' : List Value} (h : SO E base w v n vs) (hb : base' ≤ base) (e1 : vs = vs') (e2 : n = n') : SO E base' w v n' vs' := by
  subst e1; subst e2
  exact ⟨own_base h.own fun k e => Nat.le_trans hb (h.own.lt k e).1, h.len, h.one⟩
section
variable {E : SEl} {base n c : Nat} {w w' : World} {A : Option Addr} {vs : List Value}
end
section
variable {α : Type} {lt : α → α → Bool}
theorem strict_ext (irr : ∀ a, lt a a = false) (asy : ∀ a b, lt a b = true → lt b a = false) : ∀ l m : List α, l.Pairwise (lt · · = true) → m.Pairwise (lt · · = true) → (∀ x, x ∈ l ↔ x ∈ m) → l = m
  | [], [], _, _, _ => rfl
  | [], b :: m, _, _, h => absurd ((h b).2 (List.mem_cons_self ..)) (by simp)
  | a :: l, [], _, _, h => absurd ((h a).1 (List.mem_cons_self ..)) (by simp)
  | a :: l, b :: m, hl, hm, h => by
    obtain ⟨hl1, hl2⟩ := List.pairwise_cons.1 hl
    obtain ⟨hm1, hm2⟩ := List.pairwise_cons.1 hm
    have hab : a = b := by
      rcases List.mem_cons.1 ((h a).1 (List.mem_cons_self ..)) with e | e
      · exact e
      · rcases List.mem_cons.1 ((h b).2 (List.mem_cons_self ..)) with e2 | e2
        · exact e2.symm
        · have h1 := hm1 a e
          have h2 := hl1 b e2
          rw [asy _ _ h1] at h2; cases h2
    subst hab
    congr 1
    refine strict_ext irr asy l m hl2 hm2 fun x => ⟨fun hx => ?_, fun hx => ?_⟩
    · rcases List.mem_cons.1 ((h x).1 (List.mem_cons_of_mem _ hx)) with e | e
      · subst e; have := hl1 x hx; rw [irr] at this; cases this
      · exact e
    · rcases List.mem_cons.1 ((h x).2 (List.mem_cons_of_mem _ hx)) with e | e
      · subst e; have := hm1 x hx; rw [irr] at this; cases this
      · exact e
theorem place_split (tr : ∀ a b c, lt a b = true → lt b c = true → lt a c = true) (tri : ∀ a b, lt a b = false → lt b a = false → a = b) :
    ∀ (l : List α) (x : α), l.Pairwise (lt · · = true) → (∀ y ∈ l, y ≠ x) → (∀ y ∈ l.take (l.takeWhile (lt · x)).length, lt y x = true) ∧ ∀ y ∈ l.drop (l.takeWhile (lt · x)).length, lt x y = true
  | [], x, _, _ => by simp
  | b :: l, x, h, hx => by
    obtain ⟨h1, h2⟩ := List.pairwise_cons.1 h
    cases hb : lt b x
    · rw [List.takeWhile_cons_of_neg (p := fun y => lt y x) (by simp [hb])]
      simp only [List.length_nil, List.take_zero, List.drop_zero]
      have hxb : lt x b = true := by
        cases hxb : lt x b
        · exact absurd (tri _ _ hb hxb) (hx b (List.mem_cons_self ..))
        · rfl
      refine ⟨by simp, fun y hy => ?_⟩
      rcases List.mem_cons.1 hy with e | e
      · rw [e]; exact hxb
      · exact tr _ _ _ hxb (h1 y e)
    · rw [List.takeWhile_cons_of_pos (p := fun y => lt y x) hb]
      simp only [List.length_cons, List.take_succ_cons, List.drop_succ_cons]
      obtain ⟨i1, i2⟩ := place_split tr tri l x h2 fun y hy => hx y (List.mem_cons_of_mem _ hy)
      refine ⟨fun y hy => ?_, i2⟩
      rcases List.mem_cons.1 hy with e | e
      · rw [e]; exact hb
      · exact i1 y e
theorem ins_strict (tr : ∀ a b c, lt a b = true → lt b c = true → lt a c = true) (tri : ∀ a b, lt a b = false → lt b a = false → a = b) {l : List α} {x : α} (h : l.Pairwise (lt · · = true)) (hx : ∀ y ∈ l, y ≠ x) :
    (l.take (l.takeWhile (lt · x)).length ++ [x] ++ l.drop (l.takeWhile (lt · x)).length).Pairwise (lt · · = true) := by
  obtain ⟨h1, h2⟩ := place_split tr tri l x h hx
  have h3 := h
  rw [← List.take_append_drop (l.takeWhile (lt · x)).length l] at h3
  obtain ⟨p1, p2, p3⟩ := List.pairwise_append.1 h3
  refine List.pairwise_append.2 ⟨List.pairwise_append.2 ⟨p1, List.pairwise_singleton .., fun a ha b hb => ?_⟩, p2, fun a ha b hb => ?_⟩
  · rw [List.mem_singleton.1 hb]; exact h1 a ha
  · rcases List.mem_append.1 ha with e | e
    · exact p3 a e b hb
    · rw [List.mem_singleton.1 e]; exact h2 b hb
theorem ins_mem (l : List α) (x y : α) (k : Nat) : y ∈ l.take k ++ [x] ++ l.drop k ↔ y ∈ l ∨ y = x := by
  conv => rhs; rw [← List.take_append_drop k l]
  simp only [List.mem_append, List.mem_singleton]
  constructor
  · rintro ((h | h) | h)
    · exact .inl (.inl h)
    · exact .inr h
    · exact .inl (.inr h)
  · rintro ((h | h) | h)
    · exact .inl (.inl h)
    · exact .inr h
    · exact .inl (.inr h)
end

def ltN (a b : Int) : Bool := decide (a < b)
theorem ltN_tr (a b c : Int) (h1 : ltN a b = true) (h2 : ltN b c = true) : ltN a c = true := by unfold ltN at *; simp at *; omega
theorem ltN_tri (a b : Int) (h1 : ltN a b = false) (h2 : ltN b a = false) : a = b := by unfold ltN at *; simp at *; omega
theorem ltN_irr (a : Int) : ltN a a = false := by simp [ltN]
theorem ltN_asy (a b : Int) (h : ltN a b = true) : ltN b a = false := by unfold ltN at *; simp at *; omega
theorem insN_is {l : List Int} {x : Int} (h : l.Pairwise (ltN · · = true)) : (insN l x).Pairwise (ltN · · = true) ∧ ∀ y, y ∈ insN l x ↔ y ∈ l ∨ y = x := by
  unfold insN
  split
  · rename_i hx
    refine ⟨h, fun y => ⟨.inl, fun hy => ?_⟩⟩
    rcases hy with hy | rfl
    · exact hy
    · exact List.mem_of_getElem? hx
  · rename_i hx
    have hne : ∀ y ∈ l, y ≠ x := by
      rintro y hy rfl
      obtain ⟨k, hk⟩ := List.mem_iff_getElem?.1 hy
      have hkl := (List.getElem?_eq_some_iff.1 hk).1
      rcases Nat.lt_trichotomy k (plN l y) with h1 | h1 | h1
      · have := plN_below l y k y h1 hk; omega
      · rw [h1] at hk; exact hx hk
      · have hp : plN l y < l.length := by omega
        obtain ⟨z, hz⟩ : ∃ z, l[plN l y]? = some z := ⟨_, List.getElem?_eq_getElem hp⟩
        have h2 := plN_at l y z hz
        have h3 : ltN z y = true := by
          have h4 := List.pairwise_iff_getElem.1 h _ _ hp hkl h1
          rw [List.getElem?_eq_getElem hp] at hz
          rw [List.getElem?_eq_getElem hkl] at hk
          cases hz; cases hk; exact h4
        unfold ltN at h3
        exact h2 (by simpa using h3)
    exact ⟨ins_strict (lt := ltN) ltN_tr ltN_tri h hne, fun y => ins_mem l x y _⟩
theorem rise_is (l : List Int) : (riseP l).Pairwise (ltN · · = true) ∧ ∀ y, y ∈ riseP l ↔ y ∈ l := by
  have key : ∀ (l out : List Int), out.Pairwise (ltN · · = true) → (l.foldl insN out).Pairwise (ltN · · = true) ∧ ∀ y, y ∈ l.foldl insN out ↔ y ∈ out ∨ y ∈ l := by
    intro l
    induction l with
    | nil => intro out h; exact ⟨h, by simp⟩
    | cons x l ih =>
      intro out h
      obtain ⟨i1, i2⟩ := insN_is (x := x) h
      obtain ⟨j1, j2⟩ := ih _ i1
      refine ⟨j1, fun y => ?_⟩
      rw [List.foldl_cons, j2, i2, List.mem_cons, or_assoc]
  obtain ⟨h1, h2⟩ := key l [] List.Pairwise.nil
  exact ⟨h1, fun y => by unfold riseP; rw [h2]; simp⟩
theorem rise_unique {l m : List Int} (h : m.Pairwise (ltN · · = true)) (hm : ∀ y, y ∈ m ↔ y ∈ l) : m = riseP l :=
  strict_ext ltN_irr ltN_asy _ _ h (rise_is l).1 fun y => (hm y).trans ((rise_is l).2 y).symm
end Go.Proofs.YtknppiebncdjmaaGreat

namespace Go.Proofs.YtknppiebncdjmaaGreat
set_option maxRecDepth 100000
open Go.RowKit

abbrev Lk := ByteArray × ByteArray
abbrev Hd := Lk × Int
def lkV (l : Lk) : Value := .agg #[.string l.1, .string l.2]
def lkEq (a b : Lk) : Bool := a.1.toList == b.1.toList && a.2.toList == b.2.toList
def holderP (hs : List Hd) (l : Lk) : Option Int := (hs.find? (fun h => lkEq h.1 l)).map (·.2)
theorem eqLk (w : World) (a b c d : ByteArray) : (binOp .eql 42 (.agg #[.string a, .string b]) (.agg #[.string c, .string d])).run Tryz.prog w = .ok (.bool (lkEq (a, b) (c, d))) w := by
  have hs : Tryz.prog.underlying 42 = some (.struct (Tryz.prog.fieldsOf 42)) := by kernel_rfl
  have hp : Tryz.prog.stoodInHeld 42 = false := by kernel_rfl
  have hf : (Tryz.prog.fieldsOf 42).toList.map (fun f => (f.name == "_", f.type, f.offset)) = [(false, 9, 0), (false, 9, 1)] := by kernel_rfl
  have hu := Tryz.underlying9
  rw [run_eql_struct, run_equalIn_struct w 9999 _ _ _ hs hp]
  generalize (Tryz.prog.fieldsOf 42).toList = fs at hf
  obtain ⟨f, fs1, rfl, hf1, hf⟩ := List.map_eq_cons_iff.1 hf
  obtain ⟨g, fs2, rfl, hg1, hf⟩ := List.map_eq_cons_iff.1 hf
  have : fs2 = [] := by simpa using hf
  subst this
  simp only [Prod.mk.injEq] at hf1 hg1
  obtain ⟨f1, f2, f3⟩ := hf1
  obtain ⟨g1, g2, g3⟩ := hg1
  have f1' : f.name ≠ "_" := by simpa using f1
  have g1' : g.name ≠ "_" := by simpa using g1
  simp only [Op.eqFields, f1', g1', f2, f3, g2, g3, ne_eq, not_false_eq_true, if_true, Sem.run_bind]
  have e1 : (part 9 #[Value.string a, Value.string b] 0).run Tryz.prog w = .ok (.string a) w := by go_simp
  have e2 : (part 9 #[Value.string a, Value.string b] 1).run Tryz.prog w = .ok (.string b) w := by go_simp
  have e3 : (part 9 #[Value.string c, Value.string d] 0).run Tryz.prog w = .ok (.string c) w := by go_simp
  have e4 : (part 9 #[Value.string c, Value.string d] 1).run Tryz.prog w = .ok (.string d) w := by go_simp
  simp only [e1, e3, Result.andThen_ok, run_equalIn_string w 9998 _ _ _ hu]
  unfold lkEq
  cases h1 : (a.toList == c.toList) <;> cases h2 : (b.toList == d.toList) <;> simp [e2, e4, run_equalIn_string w 9998 _ _ _ hu, h2, Sem.run_ite]
end Go.Proofs.YtknppiebncdjmaaGreat

namespace Go.Proofs.YtknppiebncdjmaaGreat
set_option maxRecDepth 100000
open Go.RowKit

def seL : SEl := ⟨59, 42, .agg #[.string ⟨#[]⟩, .string ⟨#[]⟩], 2, 32⟩
theorem seL_ok : seL.Ok := ⟨by kernel_rfl, by kernel_rfl, by kernel_rfl, by decide, by decide, by decide⟩
section
variable {E : SEl} {base n : Nat} {w w' : World} {v : Value} {vs : List Value}
end
end Go.Proofs.YtknppiebncdjmaaGreat
