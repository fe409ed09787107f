/- Layer 8: slices.Compact of numbers that the call itself made, by its contract; what Sort and Compact make of a list is what Rise makes of it. -/
import Derived.Test.YtghnafknbgmagaaLkShelf
import Derived.Test.YtghnafknbgmagaaLkSorts
namespace Go.Proofs.Ytghnafknbgmagaa
set_option maxRecDepth 100000
set_option maxRecDepth 100000
open Go.RowKit

theorem compact_len8 (zs : List Int) : (Lib.compact zs).length ≤ zs.length := by
  unfold Lib.compact Lib.compactUpTo
  rw [List.length_map]
  have := List.length_filter_le (Lib.keeps zs.toArray) (List.range zs.length)
  simpa using this
/-- Compact of a list that rises: each of its numbers once, rising strictly. -/
theorem compact_is {ys : List Int} (h : ys.Pairwise (· ≤ ·)) : (Lib.compact ys).Pairwise (ltN · · = true) ∧ ∀ x, x ∈ Lib.compact ys ↔ x ∈ ys := by
  have hd : ∀ j, j < ys.length → ys.toArray[j]! = ys[j]! := fun j hj => by simp [getElem!_pos, hj]
  have key : ∀ m, m ≤ ys.length → (Lib.compactUpTo ys.toArray m).Pairwise (ltN · · = true) ∧ (∀ x, x ∈ Lib.compactUpTo ys.toArray m ↔ ∃ j, j < m ∧ ys[j]? = some x) := by
    intro m
    induction m with
    | zero => intro _; exact ⟨by simp [Lib.compactUpTo], by simp [Lib.compactUpTo]⟩
    | succ m ih =>
      intro hm
      obtain ⟨i1, i2⟩ := ih (by omega)
      obtain ⟨y, hy⟩ : ∃ y, ys[m]? = some y := ⟨_, List.getElem?_eq_getElem (by omega)⟩
      have hym : ys.toArray[m]! = y := by rw [hd m (by omega)]; simp [hy]
      rw [Lib.compactUpTo_succ, hym]
      by_cases hk : Lib.keeps ys.toArray m = true
      · rw [if_pos hk]
        refine ⟨List.pairwise_append.2 ⟨i1, List.pairwise_singleton .., fun a ha b hb => ?_⟩, fun x => ?_⟩
        · rw [List.mem_singleton.1 hb]
          obtain ⟨j, hj, hja⟩ := (i2 a).1 ha
          have hm0 : m ≠ 0 := by omega
          obtain ⟨z, hz⟩ : ∃ z, ys[m - 1]? = some z := ⟨_, List.getElem?_eq_getElem (by omega)⟩
          have hzm : ys.toArray[m - 1]! = z := by rw [hd (m - 1) (by omega)]; simp [hz]
          unfold Lib.keeps at hk
          rw [hym, hzm] at hk
          have hne : y ≠ z := by simpa [hm0] using hk
          have h1 : z ≤ y := by
            have := List.pairwise_iff_getElem.1 h (m - 1) m (by omega) (by omega) (by omega)
            rw [List.getElem?_eq_getElem (by omega)] at hz hy
            rw [Option.some.inj hz, Option.some.inj hy] at this
            exact this
          have h2 : a ≤ z := by
            rcases Nat.lt_or_ge j (m - 1) with h3 | h3
            · have := List.pairwise_iff_getElem.1 h j (m - 1) (by omega) (by omega) h3
              rw [List.getElem?_eq_getElem (by omega)] at hz hja
              rw [Option.some.inj hz, Option.some.inj hja] at this
              exact this
            · have : j = m - 1 := by omega
              subst this
              rw [hz] at hja
              rw [Option.some.inj hja]; exact Int.le_refl _
          unfold ltN
          simp only [decide_eq_true_eq]
          omega
        · rw [List.mem_append, i2, List.mem_singleton]
          constructor
          · rintro (⟨j, h1, h2⟩ | rfl)
            · exact ⟨j, by omega, h2⟩
            · exact ⟨m, by omega, hy⟩
          · rintro ⟨j, h1, h2⟩
            rcases Nat.lt_or_ge j m with h3 | h3
            · exact .inl ⟨j, h3, h2⟩
            · have : j = m := by omega
              subst this
              rw [hy] at h2
              exact .inr (Option.some.inj h2).symm
      · rw [if_neg hk, List.append_nil]
        refine ⟨i1, fun x => ?_⟩
        rw [i2]
        constructor
        · rintro ⟨j, h1, h2⟩; exact ⟨j, by omega, h2⟩
        · rintro ⟨j, h1, h2⟩
          rcases Nat.lt_or_ge j m with h3 | h3
          · exact ⟨j, h3, h2⟩
          · have : j = m := by omega
            subst this
            unfold Lib.keeps at hk
            have hm0 : j ≠ 0 := fun e => hk (by simp [e])
            obtain ⟨z, hz⟩ : ∃ z, ys[j - 1]? = some z := ⟨_, List.getElem?_eq_getElem (by omega)⟩
            have hzm : ys.toArray[j - 1]! = z := by rw [hd (j - 1) (by omega)]; simp [hz]
            rw [hym, hzm] at hk
            have hyz : y = z := by simpa [hm0] using hk
            rw [hy] at h2
            exact ⟨j - 1, by omega, by rw [hz, ← hyz]; exact h2⟩
  obtain ⟨h1, h2⟩ := key ys.length (Nat.le_refl _)
  refine ⟨h1, fun x => (h2 x).trans ⟨fun ⟨j, _, hj⟩ => List.mem_of_getElem? hj, fun hx => ?_⟩⟩
  obtain ⟨j, hj⟩ := List.mem_iff_getElem?.1 hx
  exact ⟨j, (List.getElem?_eq_some_iff.1 hj).1, hj⟩
/-- Sorted and compacted: what Rise answers, of any list with the same members. -/
theorem sort_rise {zs l : List Int} (h : ∀ x, x ∈ zs ↔ x ∈ l) : Lib.compact (zs.mergeSort fun x y => decide (x ≤ y)) = riseP l := by
  have hs : (zs.mergeSort fun x y => decide (x ≤ y)).Pairwise (· ≤ ·) := by
    have := List.pairwise_mergeSort (le := fun x y : Int => decide (x ≤ y)) (fun a b c h1 h2 => by simp at *; omega) (fun a b => by simp; omega) zs
    exact this.imp fun h => by simpa using h
  obtain ⟨h1, h2⟩ := compact_is hs
  exact rise_unique h1 fun y => (h2 y).trans ((List.mem_mergeSort).trans (h y))
theorem SO.shrink {base n n2 c g : Nat} {w : World} {zs : List Int} (h : SO seN base w (.slice (some ⟨g, 0, none⟩) n c) n (numC zs)) (hn : n2 ≤ n) : SO seN base w (.slice (some ⟨g, 0, none⟩) n2 c) n2 (numC (zs.take n2)) := by
  have hl := h.len
  rw [numC_len, show seN.s * n = n from Nat.one_mul _] at hl
  rcases h.own.2 with ⟨hv, -⟩ | ⟨g', cap, cur, hv, hb, hh, hc, hm, hsz, ht⟩
  · cases hv
  · obtain ⟨rfl, rfl⟩ : g = g' ∧ c = cap := by simpa using hv
    refine ⟨⟨by rw [numC_len, List.length_take]; show _ = n2 * 1; omega, .inr ⟨g, c, cur, rfl, hb, hh, Nat.le_trans hn hc, hm, hsz, ?_⟩⟩, by rw [numC_len, List.length_take]; show _ = 1 * n2; omega, numC_one _⟩
    have e : cur.toList.take (n2 * seN.s) = (cur.toList.take (n * seN.s)).take n2 := by
      rw [List.take_take, show n * seN.s = n from Nat.mul_one _, show n2 * seN.s = n2 from Nat.mul_one _, Nat.min_eq_left hn]
    rw [e, ht]
    simp [numC]
/-- slices.Compact of a list that the call made. -/
theorem wcompactN {base : Nat} {w : World} {v : Value} {zs : List Int} (h : SO seN base w v zs.length (numC zs)) (hn : zs.length ≤ 4000000) :
    Calls Try.prog 36 #[v] w fun e w' => ∃ v', e = .returned v' ∧ SO seN base w' v' (Lib.compact zs).length (numC (Lib.compact zs)) ∧ Below base w w' := by
  have hle := compact_len8 zs
  rcases h.own.2 with ⟨rfl, h0⟩ | ⟨g, cap, cur, rfl, hb, hh, hc, -⟩
  · have hz : zs = [] := List.eq_nil_of_length_eq_zero h0
    subst hz
    have hcon := AnyG.slices_Compact_int_empty Try.compactN none 0 w
    change Calls Try.prog 36 _ _ _ at hcon
    refine hcon.mono ?_
    rintro e w' ⟨h1, rfl⟩
    exact ⟨_, h1, SO.nil _ _ _, Below.refl _ _⟩
  · obtain ⟨A, c, e1, hsb, -⟩ := h.form
    obtain ⟨rfl, rfl⟩ : A = some ⟨g, 0, none⟩ ∧ c = cap := by
      simp at e1; exact ⟨e1.1.symm, e1.2.symm⟩
    rw [show seN.s * zs.length = zs.length from Nat.one_mul _] at hsb
    have hH : Sort.Holds (Value.int .i64) w g 0 zs.toArray := fun j hj => by
      have hj' : j < zs.length := by simpa using hj
      obtain ⟨x, hx⟩ : ∃ x, zs[j]? = some x := ⟨_, List.getElem?_eq_getElem hj'⟩
      obtain ⟨g1, o1, e2, hc⟩ := hsb.at_ (numC_at hx)
      cases e2
      refine ⟨?_, frozen_of_row _ _ _ _ _ hh⟩
      rw [hc]
      simp [hx, getElem!_pos, hj']
      rw [List.getElem?_eq_getElem hj'] at hx
      exact (Option.some.inj hx).symm
    have hlt := (Array.getElem?_eq_some_iff.1 hh).1
    have hcon := AnyG.slices_Compact_int Try.compactN g 0 c zs w hH (by omega) hc
    change Calls Try.prog 36 _ _ _ at hcon
    refine hcon.mono ?_
    rintro e w' ⟨h1, q, rfl⟩
    refine ⟨_, h1, ?_, ?_⟩
    · have h2 := so_sorted (m := q) (os := #[]) (ys := Lib.compact zs ++ List.replicate (zs.length - (Lib.compact zs).length) 0) h (by simp; omega)
      rw [Sort.grow_empty] at h2
      have h3 := h2.shrink (n2 := (Lib.compact zs).length) hle
      rw [List.take_left' rfl] at h3
      exact h3
    · have h2 := so_sorted_out (g := g) (m := q) (w := w) (ys := Lib.compact zs ++ List.replicate (zs.length - (Lib.compact zs).length) 0) (os := #[])
      rw [Sort.grow_empty] at h2
      exact h2.below (by omega) fun i hi e => by omega
end Go.Proofs.Ytghnafknbgmagaa
