/- What stays lasting: in plain lists. -/
import Derived.Test.YtapjgancaldgaaaDWrites
namespace Go.Proofs.Ytapjgancaldgaaa
set_option maxRecDepth 100000
open Go.RowKit

theorem snoc_ind {α : Type} {P : List α → Prop} (h0 : P []) (h1 : ∀ l a, P l → P (l ++ [a])) (l : List α) : P l := by
  have : ∀ k, P (l.take k) := by
    intro k
    induction k with
    | zero => simpa using h0
    | succ k ih =>
      rw [List.take_add_one]
      cases l[k]? with
      | none => simpa using ih
      | some a => exact h1 _ a ih
  have h := this l.length
  rwa [List.take_length] at h

theorem layAll_other (n : Nat) : ∀ (xs : List Wr) (ks : List Int) (l : List Cn), (∀ x ∈ xs, x.p ≠ n) → (layAll l xs ks)[n]? = l[n]?
  | [], ks, l, _ => by cases ks <;> rfl
  | x :: xs, [], l, _ => rfl
  | x :: xs, k :: ks, l, h => by
    rw [layAll, layAll_other n xs ks _ (fun y hy => h y (List.mem_cons_of_mem _ hy))]
    have hx := h x (List.mem_cons_self ..)
    unfold settleL
    split
    · rw [List.getElem?_set_ne hx]
    · split
      · rw [List.getElem?_set_ne hx]
      · rfl
def nones (b : Nat) : List (Option (List Int)) := List.replicate b none
theorem wr_none (b : Nat) (os : List OpD) : ∀ x ∈ wrPend [] b os, (wrLast (nones b) b os)[x.p]? ≠ some none := by
  refine snoc_ind (P := fun os => ∀ x ∈ wrPend [] b os, (wrLast (nones b) b os)[x.p]? ≠ some none) ?_ ?_ os
  · intro x hx; simp [wrPend] at hx
  · intro os o ih x hx
    rw [wrPend_snoc] at hx
    rw [wrLast_snoc]
    split at hx
    · rename_i hok
      rw [if_pos hok]
      rcases List.mem_append.1 hx with hx | hx
      · rw [List.getElem?_set]
        split
        · split <;> simp
        · exact ih x hx
      · simp at hx
        subst hx
        rw [List.getElem?_set]
        simp
    · rename_i hok
      rw [if_neg hok]
      exact ih x hx
theorem wr_last (b : Nat) (os : List OpD) (n : Nat) (hn : n < b) : ∃ o, (wrLast (nones b) b os)[n]? = some o ∧ (layAll (newL b) (wrPend [] b os) (ones (wrPend [] b os).length))[n]? = some ⟨o.getD zero64, false⟩ := by
  refine snoc_ind (P := fun os => ∃ o, (wrLast (nones b) b os)[n]? = some o ∧ (layAll (newL b) (wrPend [] b os) (ones (wrPend [] b os).length))[n]? = some ⟨o.getD zero64, false⟩) ?_ ?_ os
  · exact ⟨none, by simp [wrLast, nones, hn], by simp [wrPend, layAll, newL, hn, ones]⟩
  · intro os o ih
    obtain ⟨q, h1, h2⟩ := ih
    rw [wrPend_snoc, wrLast_snoc]
    by_cases hok : o.ok b
    · rw [if_pos hok, if_pos hok]
      have hlen : (layAll (newL b) (wrPend [] b os) (ones (wrPend [] b os).length)).length = b := by rw [layAll_len]; simp [newL]
      have hll : (wrLast (nones b) b os).length = b := by rw [wrLast_len]; simp [nones]
      have e1 : (wrPend [] b os ++ [(⟨o.n.toNat, o.z1⟩ : Wr)]).length = (wrPend [] b os).length + 1 := by simp
      rw [e1, ones_succ, layAll_snoc _ _ _ _ _ (by simp [ones])]
      unfold settleL
      rw [if_pos rfl]
      by_cases e : o.n.toNat = n
      · refine ⟨some o.z1, ?_, ?_⟩
        · rw [List.getElem?_set, if_pos e, if_pos (by omega)]
        · rw [List.getElem?_set, if_pos e, if_pos (by show o.n.toNat < _; omega)]; rfl
      · exact ⟨q, by rw [List.getElem?_set_ne e]; exact h1, by rw [List.getElem?_set_ne e]; exact h2⟩
    · rw [if_neg hok, if_neg hok]
      exact ⟨q, h1, h2⟩
theorem read_clean {S : St} {n : Nat} {c : Cn} (ho : S.off = false) (hp : S.pend = []) (hc : S.last[n]? = some c) (ht : c.t = false) : readB S (n : Int) = (c.b, 0) := by
  have hn : n < S.last.length := (List.getElem?_eq_some_iff.1 hc).1
  have hcc := (List.getElem?_eq_some_iff.1 hc).2
  unfold readB
  rw [ho, hp]
  simp [hn, lastW, hcc, ht]
theorem read_any {w : World} {d : Value} {n : Value} {r : List Int × Int} (h : Calls Try.prog 59 #[d, n] w (ReadIs w r)) :
    Calls Try.prog 59 #[d, n] w fun e w' => ∃ v c, e = .returned (.tuple #[v, .int .i64 c]) ∧ Below w.heap.size w w' := h.mono (by
  rintro e w' (⟨_, _, h1, h2⟩ | ⟨_, _, h1, h2⟩)
  · exact ⟨_, _, h1, by rw [← h2]; exact Below.refl _ _⟩
  · exact ⟨_, _, h1, by rw [h2]; exact (Below.refl _ _).alloc (Nat.le_refl _) _⟩)
theorem nil_is (w : World) : (binOp .eql 34 (.slice none 0 0) (.slice none 0 0)).run Try.prog w = .ok (.bool true) w := by
  simp only [binOp]
  simp [run_equal_slice_nil w 34 _ none 0 0 Try.underlying34]
theorem nil_isnt (w : World) (a : Addr) (l c : Nat) : (binOp .eql 34 (.slice (some a) l c) (.slice none 0 0)).run Try.prog w = .ok (.bool false) w := by
  simp only [binOp]
  simp [run_equal_slice_nil w 34 _ (some a) l c Try.underlying34]
end Go.Proofs.Ytapjgancaldgaaa
