/- Layer 11: slices.Sort of numbers (int) that the call itself made, by its contract. -/
import Derived.Test.YtbmgeobmmpaghaaGreatDoorSeShelf2
import Derived.Test.YtbmgeobmmpaghaaGreatDoorSeM
set_option linter.unusedVariables false
namespace Go.Proofs.YtbmgeobmmpaghaaGreatDoor
set_option maxRecDepth 100000
open Go.RowKit

theorem sortedI_heap (w : World) (m g : Nat) (ys : Array Int) (os : Array Obj) (k : Nat) (hk : k < w.heap.size) :
    (Sort.grow (Sort.putRow (Value.int .i64) (Sort.ahead w m) g 0 ys) os).heap[k]? = if k = g then (w.heap[k]?).map (Sort.onCells (Sort.putCells (Value.int .i64) 0 ys)) else w.heap[k]? := by
  unfold Sort.grow Sort.putRow Sort.mapBlock Sort.ahead
  simp only
  rw [Array.getElem?_append_left (by simpa using hk), Array.getElem?_modify]
  by_cases e : g = k
  · subst e; simp
  · rw [if_neg e, if_neg (Ne.symm e)]
theorem so_sortedI {base n c g m : Nat} {w : World} {zs ys : List Int} {os : Array Obj} (h : SO seI base w (.slice (some ⟨g, 0, none⟩) n c) n (numC zs)) (hl : ys.length = n) :
    SO seI base (Sort.grow (Sort.putRow (Value.int .i64) (Sort.ahead w m) g 0 ys.toArray) os) (.slice (some ⟨g, 0, none⟩) n c) n (numC ys) := by
  rcases h.own.2 with ⟨hv, -⟩ | ⟨g', cap, cur, hv, hb, hh, hc, hm, hsz, ht⟩
  · cases hv
  · obtain ⟨rfl, rfl⟩ : g = g' ∧ c = cap := by simpa using hv
    refine ⟨⟨by rw [numC_len, hl]; show n = n * 1; omega, .inr ⟨g, c, Sort.putCells (Value.int .i64) 0 ys.toArray cur, rfl, hb, ?_, hc, hm, by simpa [Sort.putCells] using hsz, ?_⟩⟩, by rw [numC_len, hl]; show n = 1 * n; omega, numC_one _⟩
    · rw [sortedI_heap _ _ _ _ _ _ (Array.getElem?_eq_some_iff.1 hh).1, if_pos rfl, hh]; rfl
    · have hcs : cur.size = c * 1 := hsz
      apply List.ext_getElem?
      intro k
      show (List.take (n * 1) _)[k]? = _
      rw [List.getElem?_take, Nat.mul_one]
      by_cases hk : k < n
      · rw [if_pos hk]
        have h1 : k < cur.size := by omega
        have h2 : k < ys.length := by omega
        simp [Sort.putCells, numC, h1, h2]
      · rw [if_neg hk, List.getElem?_eq_none (by rw [numC_len]; omega)]
theorem so_sortedI_out {g m : Nat} {w : World} {ys : List Int} {os : Array Obj} : Out (fun k => k = g) w (Sort.grow (Sort.putRow (Value.int .i64) (Sort.ahead w m) g 0 ys.toArray) os) :=
  ⟨rfl, rfl, rfl, by simp [Sort.grow, Sort.putRow, Sort.mapBlock, Sort.ahead], fun k hk hn => by
    rw [sortedI_heap _ _ _ _ _ _ hk, if_neg hn]⟩
/-- slices.Sort of a list that the call made. -/
theorem wsortI {base : Nat} {w : World} {v : Value} {zs : List Int} (h : SO seI base w v zs.length (numC zs)) (hn : zs.length ≤ 4000000) :
    Calls Tryz.prog 81 #[v] w fun e w' => e = .returned (.tuple #[]) ∧ SO seI base w' v zs.length (numC (zs.mergeSort fun x y => decide (x ≤ y))) ∧ Below base w w' := by
  rcases h.own.2 with ⟨rfl, h0⟩ | ⟨g, cap, cur, rfl, hb, hh, -⟩
  · have hz : zs = [] := List.eq_nil_of_length_eq_zero h0
    subst hz
    have hcon := AnyM.slices_Sort_int_none Tryz.sortI none 0 w
    change Calls Tryz.prog 81 _ _ _ at hcon
    refine hcon.mono ?_
    rintro e w' ⟨h1, rfl⟩
    exact ⟨h1, by simpa using h, Below.refl _ _⟩
  · obtain ⟨A, c, e1, hsb, -⟩ := h.form
    obtain ⟨rfl, rfl⟩ : A = some ⟨g, 0, none⟩ ∧ c = cap := by
      simp at e1; exact ⟨e1.1.symm, e1.2.symm⟩
    rw [show seI.s * zs.length = zs.length from Nat.one_mul _] at hsb
    have hH : Sort.Holds (Value.int .i64) w g 0 zs.toArray := fun j hj => by
      have hj' : j < zs.length := by simpa using hj
      obtain ⟨x, hx⟩ : ∃ x, zs[j]? = some x := ⟨_, List.getElem?_eq_getElem hj'⟩
      obtain ⟨g1, o1, e2, hc⟩ := hsb.at_ (numC_at hx)
      cases e2
      refine ⟨?_, frozen_of_row _ _ _ _ _ hh⟩
      rw [hc]
      simp [getElem!_pos, hj']
      rw [List.getElem?_eq_getElem hj'] at hx
      exact (Option.some.inj hx).symm
    have hlt := (Array.getElem?_eq_some_iff.1 hh).1
    have hcon := AnyM.slices_Sort_int Tryz.sortI g 0 c zs w hH hlt (by omega)
    change Calls Tryz.prog 81 _ _ _ at hcon
    refine hcon.mono ?_
    rintro e w' ⟨h1, m, os, rfl⟩
    exact ⟨h1, so_sortedI h (List.length_mergeSort _), so_sortedI_out.below (by omega) fun i hi e => by omega⟩
end Go.Proofs.YtbmgeobmmpaghaaGreatDoor
