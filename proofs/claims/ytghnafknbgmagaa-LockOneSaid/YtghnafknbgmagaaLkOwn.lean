/- Layer 8: lists of structs that the call itself made: append. -/
import Derived.Test.YtghnafknbgmagaaLkP
import Derived.Deep.DeepAppendWide
import Derived.Test.YtghnafknbgmagaaOwnB
namespace Go.Proofs.Ytghnafknbgmagaa
set_option maxRecDepth 100000
set_option maxRecDepth 100000
open Go.RowKit

/-- A slice's type, its elements' type, their zero, their cells, their bytes. -/
structure SEl where
  t : TypeId
  e : TypeId
  z : Value
  s : Nat
  b : Nat
structure SEl.Ok (E : SEl) : Prop where
  und : Try.prog.underlying E.t = some (.slice E.e)
  el : Try.prog.elem E.t = E.e
  info : (Try.prog.info? E.e).map (fun i => (i.zero, i.size, i.bytes)) = some (some E.z, E.s, E.b)
  zc : E.z.cells.size = E.s
  s0 : 0 < E.s
  b1 : E.b ≤ 40
def seH : SEl := ⟨27, 66, .agg #[.string ⟨#[]⟩, .string ⟨#[]⟩, .int .i64 0], 3, 40⟩
def seL : SEl := ⟨44, 34, .agg #[.string ⟨#[]⟩, .string ⟨#[]⟩], 2, 32⟩
def seN : SEl := ⟨45, 2, .int .i64 0, 1, 8⟩
theorem seH_ok : seH.Ok := ⟨by kernel_rfl, by kernel_rfl, by kernel_rfl, by decide, by decide, by decide⟩
theorem seL_ok : seL.Ok := ⟨by kernel_rfl, by kernel_rfl, by kernel_rfl, by decide, by decide, by decide⟩
theorem seN_ok : seN.Ok := ⟨by kernel_rfl, by kernel_rfl, by kernel_rfl, by decide, by decide, by decide⟩

/-- The value is a slice of n elements, these cells, in a row of its own from block base on. -/
structure SO (E : SEl) (base : Nat) (w : World) (v : Value) (n : Nat) (vs : List Value) : Prop where
  own : w.ownsRow base E.e E.s v n vs
  len : vs.length = E.s * n
  one : ∀ u ∈ vs, u.oneCell' = true
section
variable {E : SEl} {base n : Nat} {w w' : World} {v : Value} {vs : List Value}
theorem SO.nil (E : SEl) (base : Nat) (w : World) : SO E base w (.slice none 0 0) 0 [] := ⟨World.ownsRow_nil _ _ _ _, by simp, by simp⟩
theorem SO.form (h : SO E base w v n vs) : ∃ A c, v = .slice A n c ∧ SB w A (E.s * n) vs ∧ n ≤ c ∧ c ≤ maxLen ∧ ∀ ad, A = some ad → base ≤ ad.block := by
  rcases h.own.2 with ⟨rfl, h0⟩ | ⟨g, cap, cur, rfl, _, hh, hc, hm, _, ht⟩
  · have hz : n = 0 := h0
    subst hz
    exact ⟨none, 0, rfl, ⟨h.len, h.one, fun h => absurd h (by omega)⟩, Nat.le_refl _, by simp [maxLen], by simp⟩
  · refine ⟨_, cap, rfl, ⟨h.len, h.one, fun hn => ⟨g, 0, rfl, fun j u hj => ?_⟩⟩, hc, hm, fun ad e => ?_⟩
    · have := World.ownsRow.cells h.own (g := g) rfl j u hj
      have hadd : (⟨g, 0, none⟩ : Addr).add j = ⟨g, 0 + j, none⟩ := by unfold Addr.add; split <;> simp_all
      rw [← hadd]; exact this
    · cases e; exact (h.own.lt g rfl).1
theorem SO.alloc (h : SO E base w v n vs) (o : Obj) : SO E base (w.alloc o) v n vs := ⟨h.own.alloc o, h.len, h.one⟩
theorem SO.drew (h : SO E base w v n vs) : SO E base w.drew v n vs := ⟨h.own.drew, h.len, h.one⟩
theorem SO.below (h : SO E base w v n vs) (hb : Below w.heap.size w w') : SO E base w' v n vs := by
  refine ⟨h.own.kept (row := none) ⟨hb.os, hb.tape, hb.output, hb.size, fun k hk _ => hb.block k hk⟩ ?_, h.len, h.one⟩
  cases hv : v.ownBlock <;> simp
theorem SB.addr {A : Option Addr} {m : Nat} (h : SB w A m vs) (h0 : 0 < m) : ∃ g o, A = some ⟨g, o, none⟩ ∧ ∀ j u, vs[j]? = some u → w.cell? ((⟨g, o, none⟩ : Addr).add j) = some u := by
  obtain ⟨g, o, e, hc⟩ := h.cell h0
  refine ⟨g, o, e, fun j u hj => ?_⟩
  have hadd : (⟨g, o, none⟩ : Addr).add j = ⟨g, o + j, none⟩ := by unfold Addr.add; split <;> simp_all
  rw [hadd]; exact hc j u hj

theorem below_of_grown8 {w1 : World} {base : Nat} {v : Value} (hg : w.grownBy w' v.ownBlock) (hb : base ≤ w.heap.size) (hv : ∀ k, v.ownBlock = some k → base ≤ k) : Below base w w' :=
  (Below.refl base w).grown hg hb hv

/-- append, whatever stands behind it. -/
theorem wp_so (hE : E.Ok) {o : Oper} {a : Act} {K : Act → World → Prop} {Q : Exit → Act → World → Prop} (s x : Operand)
    (ho : o.op = .call { callee := .builtin .append, args := #[s, x], argTypes := #[E.t, E.t] })
    (v : Value) (hs : a.eval s = v) (hown : SO E base w v n vs) (A : Option Addr) (m c : Nat) (us : List Value) (hx : a.eval x = .slice A m c) (hr : SB w A (E.s * m) us)
    (hsz : n + m ≤ 10000000) (hbase : base ≤ w.heap.size)
    (h : ∀ v' w', SO E base w' v' (n + m) (vs ++ us) → Below base w w' → K (a.put o.dst v') w') : o.wp Try.prog a w K Q := by
  obtain ⟨i0, hi, hz0, hz1, hz2⟩ := info_parts hE.info
  have hrow : ∀ k, v.ownBlock = some k → base ≤ k := fun k hk => (hown.own.lt k hk).1
  have hs0 := hE.s0
  have hb1 := hE.b1
  rcases A with _ | ad
  · have hm : m = 0 := by
      rcases Nat.eq_zero_or_pos m with h0 | h0
      · exact h0
      · obtain ⟨g, q, e, -⟩ := hr.cell (Nat.mul_pos hs0 h0)
        cases e
    subst hm
    have hy : us = [] := List.eq_nil_of_length_eq_zero (by rw [hr.len]; simp)
    subst hy
    have hrun := run_append_nothing w E.t o.type i0 hE.und hi hown.own c
    unfold Oper.wp
    simp [execOp, ho, resolve, invoke, builtin, hs, hx, hrun, Result.andThen]
    exact h v w (by simpa using hown) (Below.refl _ _)
  · have hcell : ∀ j u, us[j]? = some u → w.cell? (ad.add j) = some u := by
      rcases Nat.eq_zero_or_pos m with h0 | h0
      · intro j u hj
        have hy : us = [] := List.eq_nil_of_length_eq_zero (by rw [hr.len, h0]; simp)
        subst hy
        simp at hj
      · obtain ⟨g, q, e, hcell⟩ := hr.addr (Nat.mul_pos hs0 h0)
        cases e
        exact hcell
    refine wp_append_own w s x E.t ho base E.e i0 E.z E.s E.b hE.und hi hz0 hz1 hz2 hE.zc hs0 v n vs hs hown.own ad m c us hx (by rw [hr.len, Nat.mul_comm]) hcell hr.one (by simp only [maxLen]; omega) ?_ hbase ?_
    · exact Nat.le_trans (Nat.mul_le_mul hsz hb1) (by omega)
    · intro v' w' hown' hg _
      exact h v' w' ⟨hown', by rw [List.length_append, hown.len, hr.len, ← Nat.mul_add], fun u hu => by
        rcases List.mem_append.1 hu with h1 | h1
        · exact hown.one u h1
        · exact hr.one u h1⟩ (below_of_grown8 (w1 := w) hg hbase hrow)
/-- append in a list of operations. -/
theorem so_append (hE : E.Ok) {ops : Array Oper} {rest : List Oper} {o : Oper} {a : Act} {Q : Exit → Act → World → Prop} (hgd : o.guard = none) (s x : Operand)
    (ho : o.op = .call { callee := .builtin .append, args := #[s, x], argTypes := #[E.t, E.t] })
    (v : Value) (hs : a.eval s = v) (hown : SO E base w v n vs) (A : Option Addr) (m c : Nat) (us : List Value) (hx : a.eval x = .slice A m c) (hr : SB w A (E.s * m) us)
    (hsz : n + m ≤ 10000000) (hbase : base ≤ w.heap.size)
    (h : ∀ v' w', SO E base w' v' (n + m) (vs ++ us) → Below base w w' → wpList Try.prog ops Q rest (a.put o.dst v') w') : wpList Try.prog ops Q (o :: rest) a w :=
  wpList_plain hgd fun _ hK => wp_so hE s x ho v hs hown A m c us hx hr hsz hbase fun v' w' h1 h2 => hK _ _ (h v' w' h1 h2)
/-- append as a step of a region that draws its order. -/
theorem so_step (hE : E.Ok) {ops : Array Oper} {o : Oper} {a : Act} {K : Act → World → Prop} {Q : Exit → Act → World → Prop} {Z : Prop} (hgd : o.guard = none) (s x : Operand)
    (ho : o.op = .call { callee := .builtin .append, args := #[s, x], argTypes := #[E.t, E.t] })
    (v : Value) (hs : a.eval s = v) (hown : SO E base w v n vs) (A : Option Addr) (m c : Nat) (us : List Value) (hx : a.eval x = .slice A m c) (hr : SB w A (E.s * m) us)
    (hsz : n + m ≤ 10000000) (hbase : base ≤ w.heap.size)
    (h : ∀ v' w', SO E base w' v' (n + m) (vs ++ us) → Below base w w' → K (a.put o.dst v') w') : if Region.wanted o (yielded ops a.tmps) = true then Oper.wp Try.prog o a w K Q else Z := by
  rw [if_pos (by simp [Region.wanted, hgd])]
  exact wp_so hE s x ho v hs hown A m c us hx hr hsz hbase h
end
end Go.Proofs.Ytghnafknbgmagaa
