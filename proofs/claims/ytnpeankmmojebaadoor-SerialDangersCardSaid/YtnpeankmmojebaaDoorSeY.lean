/- Layer 11: slices.Compact of dependencies that the call itself made. -/
import Derived.Test.YtnpeankmmojebaaDoorJAN
import Derived.Lib.SliceRun
set_option linter.unusedVariables false
namespace Go.Proofs.YtnpeankmmojebaaDoor
set_option maxRecDepth 100000
set_option maxRecDepth 100000
open Go.RowKit

/-- Of the first i of a list, those that differ from the one ahead. -/
def cpD (ys : List Dp) : Nat → List Dp
  | 0 => []
  | i + 1 => match ys[i]? with
    | some y => if 0 < i ∧ ys[i - 1]? = some y then cpD ys i else cpD ys i ++ [y]
    | none => cpD ys i
theorem cpD_next {ys : List Dp} {i : Nat} {y : Dp} (h : ys[i]? = some y) : cpD ys (i + 1) = if 0 < i ∧ ys[i - 1]? = some y then cpD ys i else cpD ys i ++ [y] := by
  show (match ys[i]? with | some y => _ | none => _) = _
  rw [h]
theorem cpD_len (ys : List Dp) : ∀ i, (cpD ys i).length ≤ i
  | 0 => Nat.le_refl _
  | i + 1 => by
    have ih := cpD_len ys i
    cases h : ys[i]? with
    | none => show (match ys[i]? with | some y => _ | none => _ : List Dp).length ≤ _; rw [h]; exact Nat.le_succ_of_le ih
    | some y => rw [cpD_next h]; split <;> simp <;> omega
/-- Of a list that rises: it rises strictly, and has the same members. -/
theorem cpD_is {ys : List Dp} (h : ys.Pairwise fun a b => lessD b a = false) : ∀ i, i ≤ ys.length → (cpD ys i).Pairwise (lessD · · = true) ∧ ∀ x, x ∈ cpD ys i ↔ x ∈ ys.take i
  | 0, _ => by simp [cpD]
  | i + 1, hi => by
    obtain ⟨i1, i2⟩ := cpD_is h i (by omega)
    obtain ⟨y, hy⟩ : ∃ y, ys[i]? = some y := ⟨_, List.getElem?_eq_getElem (by omega)⟩
    rw [cpD_next hy, List.take_add_one, hy, Option.toList_some]
    split
    · rename_i e
      refine ⟨i1, fun x => ?_⟩
      rw [i2, List.mem_append, List.mem_singleton]
      constructor
      · exact .inl
      · rintro (k | rfl)
        · exact k
        · exact List.mem_of_getElem? (i := i - 1) (by rw [List.getElem?_take, if_pos (by omega)]; exact e.2)
    · rename_i e
      refine ⟨List.pairwise_append.2 ⟨i1, List.pairwise_singleton .., fun a ha b hb => ?_⟩, fun x => by rw [List.mem_append, i2, List.mem_append]⟩
      rw [List.mem_singleton.1 hb]
      obtain ⟨j, hj⟩ := List.mem_iff_getElem?.1 ((i2 a).1 ha)
      rw [List.getElem?_take] at hj
      split at hj
      · rename_i hji
        have hpi := List.pairwise_iff_getElem.1 h
        have hjl : j < ys.length := by omega
        have h1 := hpi j i hjl (by omega) hji
        rw [List.getElem?_eq_getElem hjl] at hj
        rw [List.getElem?_eq_getElem (by omega)] at hy
        rw [Option.some.inj hj, Option.some.inj hy] at h1
        cases h2 : lessD a y with
        | true => rfl
        | false =>
          exfalso
          have hay := lessD_tri _ _ h2 h1
          subst hay
          apply e
          refine ⟨by omega, ?_⟩
          rcases Nat.lt_or_ge j (i - 1) with h3 | h3
          · have h4 := hpi j (i - 1) hjl (by omega) h3
            have h5 := hpi (i - 1) i (by omega) (by omega) (by omega)
            rw [Option.some.inj hj] at h4
            rw [Option.some.inj hy] at h5
            rw [List.getElem?_eq_getElem (by omega), lessD_tri _ _ h4 h5]
          · have : j = i - 1 := by omega
            rw [← this, List.getElem?_eq_getElem hjl, Option.some.inj hj]
      · cases hj
theorem cpD_all {ys : List Dp} : ∀ i, i ≤ ys.length → (∀ j y, 0 < j → j < i → ys[j]? = some y → ys[j - 1]? ≠ some y) → cpD ys i = ys.take i
  | 0, _, _ => by simp [cpD]
  | i + 1, hi, h => by
    obtain ⟨y, hy⟩ : ∃ y, ys[i]? = some y := ⟨_, List.getElem?_eq_getElem (by omega)⟩
    rw [cpD_next hy, List.take_add_one, hy, cpD_all i (by omega) fun j y h1 h2 => h j y h1 (by omega)]
    rw [if_neg (fun k => h i y k.1 (by omega) hy k.2)]
    rfl
section
variable {E : SEl} {base n c g : Nat} {w : World} {vs us : List Value}
/-- Cells laid into such a row. -/
theorem so_storeE (h : SO E base w (.slice (some ⟨g, 0, none⟩) n c) n vs) (o : Nat) (h1 : ∀ u ∈ us, u.oneCell' = true) (hl : o + us.length ≤ vs.length) : SO E base (w.setCells g o us) (.slice (some ⟨g, 0, none⟩) n c) n (putL vs o us) := by
  refine ⟨own_setCells us o h.own, by rw [putL_len]; exact h.len, fun u hu => ?_⟩
  obtain ⟨j, hj⟩ := List.mem_iff_getElem?.1 hu
  rw [putL_get us vs o j hl] at hj
  split at hj
  · exact h1 u (List.mem_of_getElem? hj)
  · exact h.one u (List.mem_of_getElem? hj)
theorem so_shrinkE (h : SO E base w (.slice (some ⟨g, 0, none⟩) n c) n vs) {n2 : Nat} (hn : n2 ≤ n) : SO E base w (.slice (some ⟨g, 0, none⟩) n2 c) n2 (vs.take (E.s * n2)) := by
  have hl := h.len
  have hle : E.s * n2 ≤ E.s * n := Nat.mul_le_mul_left _ hn
  rcases h.own.2 with ⟨hv, -⟩ | ⟨g', cap, cur, hv, hb, hh, hc, hm, hsz, ht⟩
  · cases hv
  · obtain ⟨rfl, rfl⟩ : g = g' ∧ c = cap := by simpa using hv
    refine ⟨⟨by rw [List.length_take, hl, Nat.mul_comm n2]; omega, .inr ⟨g, c, cur, rfl, hb, hh, Nat.le_trans hn hc, hm, hsz, ?_⟩⟩, by rw [List.length_take, hl]; omega, fun u hu => h.one u (List.mem_of_mem_take hu)⟩
    rw [← ht, List.take_take, Nat.mul_comm E.s]
    congr 1
    have : n2 * E.s ≤ n * E.s := Nat.mul_le_mul_right _ hn
    omega
end
theorem cellsE_set {ys : List Dp} {i : Nat} {y : Dp} (hi : i < ys.length) : putL (cellsE dpC ys) (i * 3) (dpC y) = cellsE dpC (ys.set i y) := by
  have hl : (cellsE dpC ys).length = 3 * ys.length := cellsE_len dpC_len ys
  apply List.ext_getElem?
  intro t
  rw [putL_get _ _ _ _ (by rw [hl, dpC_len]; omega), dpC_len]
  have hl2 : (cellsE dpC (ys.set i y)).length = 3 * ys.length := by rw [cellsE_len dpC_len]; simp
  by_cases ht : t < 3 * ys.length
  · have hq : t / 3 < ys.length := by omega
    have e : 3 * (t / 3) + t % 3 = t := Nat.div_add_mod t 3
    have hm : t % 3 < 3 := Nat.mod_lt _ (by omega)
    by_cases hti : t / 3 = i
    · rw [if_pos (by omega)]
      have h1 : (ys.set i y)[i]? = some y := List.getElem?_set_self (by omega)
      obtain ⟨u, hu⟩ : ∃ u, (dpC y)[t % 3]? = some u := ⟨_, List.getElem?_eq_getElem (by rw [dpC_len]; exact hm)⟩
      have h2 := cellsE_at dpC_len _ _ _ h1 _ _ hu
      rw [← hti, e] at h2
      rw [show t - i * 3 = t % 3 by omega, hu]
      rw [hti] at h2
      exact h2.symm
    · rw [if_neg (by omega)]
      obtain ⟨x, hx⟩ : ∃ x, ys[t / 3]? = some x := ⟨_, List.getElem?_eq_getElem hq⟩
      have h1 : (ys.set i y)[t / 3]? = some x := by rw [List.getElem?_set_ne (Ne.symm hti)]; exact hx
      obtain ⟨u, hu⟩ : ∃ u, (dpC x)[t % 3]? = some u := ⟨_, List.getElem?_eq_getElem (by rw [dpC_len]; exact hm)⟩
      have h2 := cellsE_at dpC_len _ _ _ h1 _ _ hu
      have h3 := cellsE_at dpC_len _ _ _ hx _ _ hu
      rw [e] at h2 h3
      rw [h2, h3]
  · rw [if_neg (by omega), List.getElem?_eq_none (by omega), List.getElem?_eq_none (by omega)]
theorem run_storeE (w : World) (b o : Nat) (cs : List Value) (ht : w.there b o cs.length) (h1 : ∀ v ∈ cs, v.oneCell' = true) : (storeCells ⟨b, o, none⟩ cs 0).run Tryd.prog w = .ok () (w.setCells b o cs) := by
  have := run_storeCells_cells (P := Tryd.prog) b o cs 0 w (fun j hj => by simpa using (ht j hj).1) (fun j hj => by simpa using (ht j hj).2) h1
  simpa using this
theorem zeroDp (w : World) : (zeroValue 53).run Tryd.prog w = .ok (.agg #[.int .i64 0, .int .i64 0, .int .i64 0]) w := by kernel_rfl
/-- clear(s[k:]) of such a list: what stands ahead of k stays. -/
theorem run_clearD {base n c g k : Nat} {w : World} {ys : List Dp} (h : SO seD base w (.slice (some ⟨g, 0, none⟩) n c) n (cellsE dpC ys)) (hy : ys.length = n) (hk : k < n) (c2 : Nat) :
    ∃ w', (∀ ty : TypeId, (Builtin.clear_ #[33] ty #[.slice (some ⟨g, k * 3, none⟩) (n - k) c2]).run Tryd.prog w = .ok (.tuple #[]) w') ∧ SO seD base w' (.slice (some ⟨g, 0, none⟩) k c) k (cellsE dpC (ys.take k)) ∧ Out (fun i => i = g) w w' := by
  have hz : ∀ m, (Builtin.zeroCells (Value.agg #[.int .i64 0, .int .i64 0, .int .i64 0]).cells m).toList = List.replicate (m * 3) (.int .i64 0) := fun m => by
    apply List.ext_getElem
    · simp [Builtin.zeroCells, Value.cells]
    · intro i h1 h2
      have hi : i < m * 3 := by simpa using h2
      simp only [Builtin.zeroCells, Value.cells, List.getElem_replicate]
      have : i % 3 = 0 ∨ i % 3 = 1 ∨ i % 3 = 2 := by omega
      rcases this with e | e | e <;> simp [e]
  have hl : (cellsE dpC ys).length = 3 * n := by rw [cellsE_len dpC_len, hy]
  have hst := run_storeE w g (k * 3) (List.replicate ((n - k) * 3) (.int .i64 0)) (own_there h.own _ _ (by rw [hl]; simp; omega)) (by intro v hv; rw [List.eq_of_mem_replicate hv]; rfl)
  obtain ⟨m, hm⟩ : ∃ m, n - k = m + 1 := ⟨n - k - 1, by omega⟩
  refine ⟨w.setCells g (k * 3) (List.replicate ((n - k) * 3) (.int .i64 0)), ?_, ?_, Out.setCells (F := fun i => i = g) (Out.refl _ w) (.inl rfl) _ _⟩
  · intro ty
    rw [hm] at hst ⊢
    simp [Builtin.clear_, run_underlying Tryd.underlying33, hz, hst]
  · have h2 := so_storeE (us := List.replicate ((n - k) * 3) (.int .i64 0)) h (k * 3) (by intro v hv; rw [List.eq_of_mem_replicate hv]; rfl) (by rw [hl]; simp; omega)
    have h3 := so_shrinkE h2 (Nat.le_of_lt hk)
    have e : (putL (cellsE dpC ys) (k * 3) (List.replicate ((n - k) * 3) (.int .i64 0))).take (seD.s * k) = cellsE dpC (ys.take k) := by
      rw [cellsE_take dpC_len]
      apply List.ext_getElem?
      intro t
      show (List.take (3 * k) _)[t]? = _
      rw [List.getElem?_take, List.getElem?_take]
      split
      · rw [putL_get _ _ _ _ (by rw [hl]; simp; omega), if_neg (by omega)]
      · rfl
    rw [e] at h3
    exact h3
end Go.Proofs.YtnpeankmmojebaaDoor
