/- Layer 10, plain: what is tracked stays within the caps; those that are under way, told one by one; all of them aborted. -/
import Derived.Test.YtknppiebncdjmaaGreatJBL
import Derived.Test.YtknppiebncdjmaaGreatSsB
set_option linter.unusedVariables false
namespace Go.Proofs.YtknppiebncdjmaaGreat
set_option maxRecDepth 100000

section
variable {c : Cp10} {rows : List Lk} {X Y : Pl10} {o : OpX} {mo now : Int}
theorem Cap10.do (h : Cap10 c X.S) (I : Inv10 c X.S X.vs X.rs now) : Cap10 c (doP c rows X o mo).2.S := by
  by_cases hd : o.do_ = 0
  · unfold doP
    rw [if_pos hd]
    exact h.began
  rcases ofW_is X.rs o.tx with ⟨h1, -⟩ | ⟨i, r, h1, hi, htx, hov⟩
  · rw [doP_none hd h1]; exact h
  rw [doP_some hd h1 hi]
  unfold doR
  rw [← htx]
  split
  · exact h.read I hi hov _
  split
  · exact h.scan I hi hov _ _ _
  split
  · exact h.write I hi hov _ _
  split
  · exact h.committed I hi hov
  split
  · exact h.aborted I hi hov
  · exact h
theorem alive_take {rs : List Run10} {k : Nat} {r : Run10} (hr : rs[k]? = some r) : aliveN (rs.take (k + 1)) = aliveN (rs.take k) + (if r.over = true then 0 else 1) := by
  unfold aliveN
  rw [List.take_add_one, hr, Option.toList_some, List.filter_append, List.length_append]
  cases h : r.over <;> simp [h]
theorem lock_take {rs : List Run10} {k : Nat} {r : Run10} (hr : rs[k]? = some r) : lockN (rs.take (k + 1)) = lockN (rs.take k) + (if r.over = true then 0 else r.writes.length) := by
  unfold lockN
  rw [List.take_add_one, hr, Option.toList_some, List.filter_append, List.map_append, List.sum_append]
  cases h : r.over <;> simp [h]
theorem alive_le (rs : List Run10) : aliveN rs ≤ rs.length := List.length_filter_le _ _
theorem lock_le (rs : List Run10) (q : Nat) (h : ∀ r ∈ rs, r.writes.length ≤ q) : lockN rs ≤ rs.length * q := by
  unfold lockN
  induction rs with
  | nil => simp
  | cons r rs ih =>
    have h1 := ih fun x hx => h x (List.mem_cons_of_mem _ hx)
    have h2 := h r (List.mem_cons_self ..)
    rw [List.length_cons, Nat.succ_mul]
    cases ho : r.over <;> simp [ho] at h1 ⊢ <;> omega
structure Abd (c : Cp10) (vs : List Ver10) (rs : List Run10) (S : St10) (k : Nat) (now : Int) : Prop where
  ex : ∃ rs', Inv10 c S vs rs' now ∧ rs'.length = rs.length ∧ (∀ (i : Nat) r, i < k → rs'[i]? = some r → r.over = true) ∧ ∀ i, k ≤ i → rs'[i]? = rs[i]?
  cap : Cap10 c S
theorem Abd.start {S : St10} {vs : List Ver10} {rs : List Run10} (I : Inv10 c S vs rs now) (h : Cap10 c S) : Abd c vs rs S 0 now :=
  ⟨⟨rs, I, rfl, fun i r hi => absurd hi (Nat.not_lt_zero _), fun _ _ => rfl⟩, h⟩
theorem Abd.pass {S : St10} {vs : List Ver10} {rs : List Run10} {k : Nat} {r : Run10} (h : Abd c vs rs S k now) (hr : rs[k]? = some r) (ho : r.over = true) : Abd c vs rs S (k + 1) (now + 1) := by
  obtain ⟨⟨rs', I, h1, h2, h3⟩, hc⟩ := h
  refine ⟨⟨rs', I.tick, h1, fun i q hi hq => ?_, fun i hi => h3 i (by omega)⟩, hc⟩
  by_cases e : i = k
  · subst e
    rw [h3 i (Nat.le_refl _), hr] at hq; cases hq; exact ho
  · exact h2 i q (by omega) hq
theorem Abd.next {S : St10} {vs : List Ver10} {rs : List Run10} {k : Nat} {r : Run10} (h : Abd c vs rs S k now) (hr : rs[k]? = some r) (ho : r.over = false) : (abort10 S r.tx).1 = 0 ∧ Abd c vs rs (abort10 S r.tx).2 (k + 1) (now + 1) := by
  obtain ⟨⟨rs', I, h1, h2, h3⟩, hc⟩ := h
  have hi : rs'[k]? = some r := (h3 k (Nat.le_refl _)).trans hr
  obtain ⟨a1, a2⟩ := I.aborted hi ho
  refine ⟨a1, ⟨_, a2, by rw [List.length_set]; exact h1, fun i q hik hq => ?_, fun i hik => ?_⟩, hc.aborted I hi ho⟩
  · rcases set_get hq with ⟨-, rfl⟩ | ⟨hne, hq⟩
    · rfl
    · exact h2 i q (by omega) hq
  · rw [set_other (by omega)]
    exact h3 i (by omega)
theorem Abd.idle {S : St10} {vs : List Ver10} {rs : List Run10} (h : Abd c vs rs S rs.length now) : S.list = [] ∧ S.L = [] ∧ S.H = [] := by
  obtain ⟨⟨rs', I, h1, h2, h3⟩, hc⟩ := h
  refine I.idle hc fun r hr => ?_
  obtain ⟨i, hi⟩ := List.mem_iff_getElem?.1 hr
  exact h2 i r (by have := (List.getElem?_eq_some_iff.1 hi).1; omega) hi
theorem Abd.bd {S : St10} {vs : List Ver10} {rs : List Run10} {k : Nat} (h : Abd c vs rs S k now) (hl : rs.length ≤ 999999999999999999) (hn : now ≤ 1000000000000000000) : S.next + 1 ≤ 1000000000000000000 ∧ S.last + 1 ≤ 2000000000000000000 := by
  obtain ⟨⟨rs', I, h1, -⟩, -⟩ := h
  have := I.nx
  have := I.lc
  omega
end
end Go.Proofs.YtknppiebncdjmaaGreat
