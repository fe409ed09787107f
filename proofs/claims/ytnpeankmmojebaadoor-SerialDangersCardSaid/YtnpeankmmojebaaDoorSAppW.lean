/- append to a list that the call made, up to what memory holds. -/
import Derived.Test.YtnpeankmmojebaaDoorSRow
import Derived.Deep.AppendLies
set_option linter.unusedVariables false
namespace Go.Proofs.YtnpeankmmojebaaDoor
set_option maxRecDepth 100000
set_option maxRecDepth 100000
open Go.RowKit

section
variable {E : SEl} {base n : Nat} {w w' : World} {v : Value} {vs : List Value}
/-- append, whatever stands behind it. -/
theorem wp_soW (hE : E.Ok) {o : Oper} {a : Act} {K : Act → World → Prop} {Q : Exit → Act → World → Prop} (s x : Operand)
    (ho : o.op = .call { callee := .builtin .append, args := #[s, x], argTypes := #[E.t, E.t] })
    (v : Value) (hs : a.eval s = v) (hown : SO E base w v n vs) (A : Option Addr) (m c : Nat) (us : List Value) (hx : a.eval x = .slice A m c) (hr : SB w A (E.s * m) us)
    (hsz : (n + m) * E.b ≤ 140737488355328) (h63 : n + m ≤ maxLen) (hbase : base ≤ w.heap.size)
    (h : ∀ v' w', SO E base w' v' (n + m) (vs ++ us) → Below base w w' → K (a.put o.dst v') w') : o.wp Tryd.prog a w K Q := by
  obtain ⟨i0, hi, hz0, hz1, hz2⟩ := info_parts hE.info
  have hrow : ∀ k, v.ownBlock = some k → base ≤ k := fun k hk => (hown.own.lt k hk).1
  have hs0 := hE.s0
  rcases A with _ | ad
  · have hm : m = 0 := by
      rcases Nat.eq_zero_or_pos m with h0 | h0
      · exact h0
      · obtain ⟨g, q, e, -⟩ := hr.cell (Nat.mul_pos hs0 h0)
        cases e
    subst hm
    have hy : us = [] := List.eq_nil_of_length_eq_zero (by rw [hr.len]; simp)
    subst hy
    have hrun := run_append_nothing w E.t o.type i0 hE.und hi hown.own c
    unfold Oper.wp
    simp [execOp, ho, resolve, invoke, builtin, hs, hx, hrun, Result.andThen]
    exact h v w (by simpa using hown) (Below.refl _ _)
  · have hcell : ∀ j u, us[j]? = some u → w.cell? (ad.add j) = some u := by
      rcases Nat.eq_zero_or_pos m with h0 | h0
      · intro j u hj
        have hy : us = [] := List.eq_nil_of_length_eq_zero (by rw [hr.len, h0]; simp)
        subst hy
        simp at hj
      · obtain ⟨g, q, e, hcell⟩ := hr.addr (Nat.mul_pos hs0 h0)
        cases e
        exact hcell
    refine wp_append_own w s x E.t ho base E.e i0 E.z E.s E.b hE.und hi hz0 hz1 hz2 hE.zc hs0 v n vs hs hown.own ad m c us hx (by rw [hr.len, Nat.mul_comm]) hcell hr.one h63 hsz hbase ?_
    · intro v' w' hown' hg _
      exact h v' w' ⟨hown', by rw [List.length_append, hown.len, hr.len, ← Nat.mul_add], fun u hu => by
        rcases List.mem_append.1 hu with h1 | h1
        · exact hown.one u h1
        · exact hr.one u h1⟩ (below_of_grown8 (w1 := w) hg hbase hrow)
/-- append in a list of operations. -/
theorem so_appendW (hE : E.Ok) {ops : Array Oper} {rest : List Oper} {o : Oper} {a : Act} {Q : Exit → Act → World → Prop} (hgd : o.guard = none) (s x : Operand)
    (ho : o.op = .call { callee := .builtin .append, args := #[s, x], argTypes := #[E.t, E.t] })
    (v : Value) (hs : a.eval s = v) (hown : SO E base w v n vs) (A : Option Addr) (m c : Nat) (us : List Value) (hx : a.eval x = .slice A m c) (hr : SB w A (E.s * m) us)
    (hsz : (n + m) * E.b ≤ 140737488355328) (h63 : n + m ≤ maxLen) (hbase : base ≤ w.heap.size)
    (h : ∀ v' w', SO E base w' v' (n + m) (vs ++ us) → Below base w w' → wpList Tryd.prog ops Q rest (a.put o.dst v') w') : wpList Tryd.prog ops Q (o :: rest) a w :=
  wpList_plain hgd fun _ hK => wp_soW hE s x ho v hs hown A m c us hx hr hsz h63 hbase fun v' w' h1 h2 => hK _ _ (h v' w' h1 h2)
end
section
variable {E : SEl} {base n : Nat} {w : World} {v : Value} {vs : List Value}
/-- append of one element, and where the list then lies. -/
theorem so_appendL (hE : E.Ok) {ops : Array Oper} {rest : List Oper} {o : Oper} {a : Act} {Q : Exit → Act → World → Prop} (hgd : o.guard = none) (s x : Operand)
    (ho : o.op = .call { callee := .builtin .append, args := #[s, x], argTypes := #[E.t, E.t] })
    (v : Value) (hs : a.eval s = v) (hown : SO E base w v n vs) (b c : Nat) (us : List Value) (hx : a.eval x = .slice (some ⟨b, 0, none⟩) 1 c) (hr : SB w (some ⟨b, 0, none⟩) (E.s * 1) us)
    (hsz : (n + 1) * E.b ≤ 140737488355328) (h63 : n + 1 ≤ maxLen) (hbase : base ≤ w.heap.size)
    (h : ∀ g cap w', SO E base w' (.slice (some ⟨g, 0, none⟩) (n + 1) cap) (n + 1) (vs ++ us) → w.grownBy w' v.ownBlock → (v.ownBlock = some g ∨ g = w.heap.size) → wpList Tryd.prog ops Q rest (a.put o.dst (.slice (some ⟨g, 0, none⟩) (n + 1) cap)) w') : wpList Tryd.prog ops Q (o :: rest) a w := by
  obtain ⟨i0, hi, hz0, hz1, hz2⟩ := info_parts hE.info
  have hs0 := hE.s0
  refine wpList_append_lies (P := Tryd.prog) w hgd s x E.t ho base E.e i0 E.z E.s E.b hE.und hi hz0 hz1 hz2 hE.zc hs0 v n vs hs hown.own ⟨b, 0, none⟩ 1 c us hx (by rw [hr.len, Nat.mul_comm]) ?_ hr.one (by omega) h63 hsz hbase _ rfl ?_
  · obtain ⟨g, q, e, hcell⟩ := hr.addr (Nat.mul_pos hs0 (by omega))
    cases e
    exact hcell
  · intro g cap w' hown' hg hl _
    exact h g cap w' ⟨hown', by rw [List.length_append, hown.len, hr.len, ← Nat.mul_add], fun u hu => by
      rcases List.mem_append.1 hu with h1 | h1
      · exact hown.one u h1
      · exact hr.one u h1⟩ hg hl
end
section
variable {E : SEl} {base n : Nat} {w : World} {v : Value} {vs : List Value}
/-- The same as a step of a region that draws its order. -/
theorem so_stepL (hE : E.Ok) {ops : Array Oper} {o : Oper} {a : Act} {K : Act → World → Prop} {Q : Exit → Act → World → Prop} {Z : Prop} (hgd : o.guard = none) (s x : Operand)
    (ho : o.op = .call { callee := .builtin .append, args := #[s, x], argTypes := #[E.t, E.t] })
    (v : Value) (hs : a.eval s = v) (hown : SO E base w v n vs) (b c : Nat) (us : List Value) (hx : a.eval x = .slice (some ⟨b, 0, none⟩) 1 c) (hr : SB w (some ⟨b, 0, none⟩) (E.s * 1) us)
    (hsz : (n + 1) * E.b ≤ 140737488355328) (h63 : n + 1 ≤ maxLen) (hbase : base ≤ w.heap.size)
    (h : ∀ g cap w', SO E base w' (.slice (some ⟨g, 0, none⟩) (n + 1) cap) (n + 1) (vs ++ us) → w.grownBy w' v.ownBlock → (v.ownBlock = some g ∨ g = w.heap.size) → K (a.put o.dst (.slice (some ⟨g, 0, none⟩) (n + 1) cap)) w') : if Region.wanted o (yielded ops a.tmps) = true then Oper.wp Tryd.prog o a w K Q else Z := by
  obtain ⟨i0, hi, hz0, hz1, hz2⟩ := info_parts hE.info
  have hs0 := hE.s0
  refine step_append_lies (P := Tryd.prog) w hgd s x E.t ho base E.e i0 E.z E.s E.b hE.und hi hz0 hz1 hz2 hE.zc hs0 v n vs hs hown.own ⟨b, 0, none⟩ 1 c us hx (by rw [hr.len, Nat.mul_comm]) ?_ hr.one (by omega) h63 hsz hbase _ rfl ?_
  · obtain ⟨g, q, e, hcell⟩ := hr.addr (Nat.mul_pos hs0 (by omega))
    cases e
    exact hcell
  · intro g cap w' hown' hg hl _
    exact h g cap w' ⟨hown', by rw [List.length_append, hown.len, hr.len, ← Nat.mul_add], fun u hu => by
      rcases List.mem_append.1 hu with h1 | h1
      · exact hown.one u h1
      · exact hr.one u h1⟩ hg hl
end
end Go.Proofs.YtnpeankmmojebaaDoor
