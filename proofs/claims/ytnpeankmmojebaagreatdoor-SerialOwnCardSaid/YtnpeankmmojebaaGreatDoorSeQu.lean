/- Layer 11: a queue: a list of the call's own that is cut at its front and appended to. -/
import Derived.Test.YtnpeankmmojebaaGreatDoorSeNew
import Derived.ArgAppend
set_option linter.unusedVariables false
namespace Go.Proofs.YtnpeankmmojebaaGreatDoor
set_option maxRecDepth 100000
set_option maxRecDepth 100000
open Go.RowKit

/-- A queue of ranks: a slice at any place of a row from block base on. -/
structure Qu (base : Nat) (W : World) (g q c : Nat) (L : List Nat) : Prop where
  lo : base ≤ g
  row : ∃ cs, W.heap[g]? = some (.cells cs 3 (0, 0)) ∧ q + c ≤ cs.size ∧ ∀ (j : Nat) x, L[j]? = some x → cs[q + j]? = some (.int .i64 (x : Nat))
  lc : L.length ≤ c
  cm : c ≤ maxLen
section
variable {base g q c : Nat} {W W' : World} {L : List Nat}
theorem Qu.of_so {n : Nat} (h : SO seI base W (.slice (some ⟨g, 0, none⟩) n c) n (numN L)) (hn : L.length = n) : Qu base W g 0 c L := by
  rcases h.own.2 with ⟨hv, -⟩ | ⟨g', cap, cur, hv, hb, hh, hc, hm, hs, ht⟩
  · cases hv
  · obtain ⟨e1, e2⟩ : g = g' ∧ c = cap := by
      have := Value.slice.inj hv
      exact ⟨by simpa using this.1, this.2.2⟩
    subst e1 e2
    have hs' : cur.size = c := by simpa [seI] using hs
    refine ⟨hb, ⟨cur, hh, by omega, fun j x hx => ?_⟩, by rw [hn]; exact hc, hm⟩
    have h1 := numN_at hx
    have hj : j < n := by rw [← hn]; exact (List.getElem?_eq_some_iff.1 hx).1
    rw [← ht, List.getElem?_take_of_lt (by simp only [seI]; omega)] at h1
    rw [Nat.zero_add]
    simpa using h1
theorem Qu.lt (h : Qu base W g q c L) : g < W.heap.size := by
  obtain ⟨cs, hh, -⟩ := h.row
  exact (Array.getElem?_eq_some_iff.1 hh).1
theorem Qu.out (h : Qu base W g q c L) {F : Nat → Prop} (o : Out F W W') (hF : ¬ F g) : Qu base W' g q c L := by
  obtain ⟨cs, hh, h1⟩ := h.row
  exact ⟨h.lo, ⟨cs, (o.block g h.lt hF).trans hh, h1⟩, h.lc, h.cm⟩
theorem Qu.below (h : Qu base W g q c L) (hb : Below W.heap.size W W') : Qu base W' g q c L := h.out (F := fun _ => False) (Out.of_below hb _) id
theorem Qu.cell (h : Qu base W g q c L) {j x : Nat} (hx : L[j]? = some x) : W.cell? ⟨g, q + j, none⟩ = some (.int .i64 (x : Nat)) := by
  obtain ⟨cs, hh, -, h2⟩ := h.row
  rw [cell_of_row _ _ _ _ _ _ hh]
  exact h2 j x hx
theorem Qu.cut0 (h : Qu base W g q c L) : Qu base W g q 0 [] := by
  obtain ⟨cs, hh, h1, h2⟩ := h.row
  exact ⟨h.lo, ⟨cs, hh, by omega, fun j y hy => by simp at hy⟩, by simp, Nat.zero_le _⟩
theorem Qu.cut {x : Nat} (h : Qu base W g q c (x :: L)) : Qu base W g (q + 1) (c - 1) L := by
  obtain ⟨cs, hh, h1, h2⟩ := h.row
  have hl := h.lc
  rw [List.length_cons] at hl
  refine ⟨h.lo, ⟨cs, hh, by omega, fun j y hy => ?_⟩, by omega, by have := h.cm; omega⟩
  rw [Nat.add_assoc, Nat.add_comm 1 j]
  exact h2 (j + 1) y (by simpa using hy)
/-- append of one rank. -/
theorem qu_run (h : Qu base W g q c L) (hl : L.length + 1 ≤ 1000000) (t : TypeId) (ad : Addr) (c2 x : Nat) (hx : W.cell? ad = some (.int .i64 (x : Nat))) (hb : base ≤ W.heap.size) :
    ∃ g' q' c' W', (Builtin.append_ #[22, 22] t #[.slice (some ⟨g, q, none⟩) L.length c, .slice (some ad) 1 c2]).run Tryz.prog W = .ok (.slice (some ⟨g', q', none⟩) (L.length + 1) c') W' ∧ Qu base W' g' q' c' (L ++ [x]) ∧ Out (fun k => k = g) W W' ∧ (g' = g ∨ W.heap.size ≤ g') := by
  obtain ⟨i0, hi, hz0, hz1, hz2⟩ := info_parts seI_ok.info
  obtain ⟨cs, hh, h1, h2⟩ := h.row
  have hsz : i0.size = 1 := hz1
  have hn1 : ∀ (j : Nat) u, [Value.int .i64 (x : Nat)][j]? = some u → W.cell? (ad.add j) = some u := fun j u hj => by
    have hj0 : j = 0 := by
      have := (List.getElem?_eq_some_iff.1 hj).1
      simpa using this
    subst hj0
    have hu : Value.int .i64 (x : Nat) = u := by simpa using hj
    have e0 : ad.add 0 = ad := by unfold Addr.add; simp
    rw [e0, hx, hu]
  by_cases hr : L.length + 1 ≤ c
  · have hin : q + L.length < cs.size := by omega
    have hrun := run_append_room_cells (P := Tryz.prog) W 22 t 3 i0 seI_ok.und hi g q L.length c ad 1 c2 [.int .i64 (x : Nat)] (by rw [hsz]; rfl) hn1 (fun u hu => by rw [List.mem_singleton.1 hu]; rfl) hr
      (fun j hj => by
        have hj0 : j = 0 := by simpa using hj
        subst hj0
        rw [hsz, Nat.mul_one, Nat.add_zero, cell_of_row _ _ _ _ _ _ hh, Array.getElem?_eq_getElem hin]
        rfl)
      (fun j hj => frozen_of_row _ _ _ _ _ hh)
    rw [hsz, Nat.mul_one] at hrun
    refine ⟨g, q, c, _, hrun, ⟨h.lo, ⟨_, row_set11 hh _, by rw [Array.size_setIfInBounds]; exact h1, fun j y hy => ?_⟩, by rw [List.length_append]; exact hr, h.cm⟩, Out.setCell (F := fun k => k = g) (Out.refl _ W) (p := ⟨g, q + L.length, none⟩) (.inl rfl) _, .inl rfl⟩
    rw [Array.getElem?_setIfInBounds]
    by_cases e : j = L.length
    · subst e
      rw [if_pos rfl, if_pos hin]
      have : x = y := by simpa using hy
      rw [this]
    · rw [if_neg (by omega)]
      have hj : j < L.length := by
        have := (List.getElem?_eq_some_iff.1 hy).1
        rw [List.length_append, List.length_singleton] at this
        omega
      rw [List.getElem?_append_left hj] at hy
      exact h2 j y hy
  · obtain ⟨v', W', hrun, hown, hg⟩ := run_append_arg_grows (P := Tryz.prog) W 22 t 3 i0 (.int .i64 0) 1 8 seI_ok.und hi hz0 hz1 hz2 seI_ok.zc (by decide) ⟨g, q, none⟩ L.length c (numN L) (by rw [numN_len, Nat.mul_one])
      (fun j u hj => by
        obtain ⟨y, hy⟩ : ∃ y, L[j]? = some y := ⟨_, List.getElem?_eq_getElem (by have := (List.getElem?_eq_some_iff.1 hj).1; rwa [numN_len] at this)⟩
        rw [numN_at hy] at hj
        rw [Addr.add_lit, h.cell hy]
        exact hj)
      ad 1 c2 [.int .i64 (x : Nat)] rfl hn1 (by omega) (by simp only [maxLen]; omega) (by omega)
    obtain ⟨g', cap, rfl, hlo, hlt⟩ := hown.form (by omega)
    refine ⟨g', 0, cap, W', hrun, ?_, (Out.refl _ W).grown hg (fun k e => by cases e), .inr hlo⟩
    refine Qu.of_so (n := L.length + 1) ⟨?_, by rw [numN_len, List.length_append]; simp [seI], numN_one _⟩ (by simp)
    rw [numN_app]
    rcases hown.2 with ⟨hv, -⟩ | ⟨g2, cap2, cur, hv, hb2, k1, k2, k3, k4, k5⟩
    · cases hv
    · have e := Value.slice.inj hv
      have eg : g' = g2 := by simpa using e.1
      exact ⟨hown.1, .inr ⟨g2, cap2, cur, hv, by omega, k1, k2, k3, k4, k5⟩⟩
theorem qu_append {ops : Array Oper} {rest : List Oper} {o : Oper} {a : Act} {Q : Exit → Act → World → Prop} (hgd : o.guard = none) (s y : Operand)
    (ho : o.op = .call { callee := .builtin .append, args := #[s, y], argTypes := #[22, 22] })
    (h : Qu base W g q c L) (hs : a.eval s = .slice (some ⟨g, q, none⟩) L.length c) (hl : L.length + 1 ≤ 1000000) (ad : Addr) (c2 x : Nat) (hy : a.eval y = .slice (some ad) 1 c2) (hx : W.cell? ad = some (.int .i64 (x : Nat))) (hb : base ≤ W.heap.size)
    (hK : ∀ g' q' c' W', Qu base W' g' q' c' (L ++ [x]) → Out (fun k => k = g) W W' → (g' = g ∨ W.heap.size ≤ g') → wpList Tryz.prog ops Q rest (a.put o.dst (.slice (some ⟨g', q', none⟩) (L.length + 1) c')) W') : wpList Tryz.prog ops Q (o :: rest) a W := by
  refine wpList_plain hgd fun K hK' => ?_
  obtain ⟨g', q', c', W', hrun, r1, r2, r3⟩ := qu_run h hl o.type ad c2 x hx hb
  unfold Oper.wp
  simp [execOp, ho, resolve, invoke, builtin, hs, hy, hrun, Result.andThen]
  exact hK' _ _ (hK g' q' c' W' r1 r2 r3)
end
end Go.Proofs.YtnpeankmmojebaaGreatDoor
