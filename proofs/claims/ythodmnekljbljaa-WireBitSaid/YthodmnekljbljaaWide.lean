/- append where a frame and as many bytes as there may be come together. -/
import Derived.Test.YthodmnekljbljaaOwnB
import Derived.Deep.DeepAppendWide
namespace Go.Proofs.Ythodmnekljbljaa
open Go.RowKit

/-- append of bytes onto a slice that the call itself made, a little farther than the first law of it goes. -/
theorem ob_append_wide {w : World} {ops : Array Oper} {rest : List Oper} {o : Oper} {a : Act} {Q : Exit → Act → World → Prop} (hgd : o.guard = none) (s x : Operand)
    (ho : o.op = .call { callee := .builtin .append, args := #[s, x], argTypes := #[25, 25] })
    (base : Nat) (v : Value) (zs : List Int) (hs : a.eval s = v) (hown : OB base w v zs) (A : Option Addr) (m c : Nat) (ys : List Int) (hx : a.eval x = .slice A m c) (hr : RB w A m ys)
    (hsz : zs.length + m ≤ 140737490000000) (hbase : base ≤ w.heap.size)
    (h : ∀ v' w', OB base w' v' (zs ++ ys) → Below base w w' → w.grownBy w' v.ownBlock → wpList Try.prog ops Q rest (a.put o.dst v') w') : wpList Try.prog ops Q (o :: rest) a w := by
  obtain ⟨i0, hi, hz0, hz1, hz2⟩ := info_parts info_u8
  have hrow : ∀ k, v.ownBlock = some k → base ≤ k := fun k hk => (hown.lt k hk).1
  have hlen := hr.len
  rcases A with _ | ad
  · have hm : m = 0 := by
      rcases Nat.eq_zero_or_pos m with h0 | h0
      · exact h0
      · obtain ⟨ad, e, _⟩ := hr.cell h0
        cases e
    subst hm
    have hy : ys = [] := List.eq_nil_of_length_eq_zero hlen
    subst hy
    refine wpList_plain hgd fun K hK => ?_
    have hrun := run_append_nothing w 25 o.type i0 Try.underlying25 hi hown.own c
    unfold Oper.wp
    simp [execOp, ho, resolve, invoke, builtin, hs, hx, hrun, Result.andThen]
    exact hK _ _ (h v w (by simpa using hown) (Below.refl _ _) (World.grownBy.refl w _))
  · refine wpList_append_own_wide w hgd s x 25 ho base 5 i0 (.int .u8 0) 1 1 Try.underlying25 hi hz0 hz1 hz2 rfl (by decide) v zs.length _ hs hown.own ad m c (ys.map (Value.int .u8)) hx (by simpa using hlen) ?_ (bytes_oneCell ys)
      (by simp only [maxLen]; omega) (by omega) hbase ?_
    · intro j u hu
      have hj : j < ys.length := by
        rcases Nat.lt_or_ge j ys.length with h1 | h1
        · exact h1
        · rw [List.getElem?_eq_none (by simpa using h1)] at hu; cases hu
      obtain ⟨ad', e, hc⟩ := hr.at_ (k := j) (by omega)
      injection e with e
      subst e
      rw [hc]
      simpa [List.getD_eq_getElem?_getD, List.getElem?_eq_getElem hj] using hu
    · intro v' w' hown' hg _
      refine h v' w' ⟨?_, ?_⟩ (below_of_grown hg hbase hrow) hg
      · rw [List.length_append, List.map_append, hlen]; exact hown'
      · intro z hz
        rcases List.mem_append.1 hz with hz | hz
        · exact hown.byte z hz
        · exact hr.byte z hz

end Go.Proofs.Ythodmnekljbljaa
