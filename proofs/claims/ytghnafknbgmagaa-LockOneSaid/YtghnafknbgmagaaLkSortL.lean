/- Layer 8: slices.SortFunc of locks that the call itself made, by its contract. -/
import Derived.Test.YtghnafknbgmagaaLkShelf
import Derived.Test.YtghnafknbgmagaaLkCmp2
import Derived.Test.YtghnafknbgmagaaLkSorts
import Derived.Test.YtghnafknbgmagaaLkHeld
namespace Go.Proofs.Ytghnafknbgmagaa
set_option maxRecDepth 100000
set_option maxRecDepth 100000
open Go.RowKit

def encL (l : Lk) : List Value := [.string l.1, .string l.2]
theorem flat_cellsL (d : Array Lk) : (Sort.flatK encL 2 d).toList = cellsL d.toList := by
  apply List.ext_getElem?
  intro t
  have hlen : (cellsL d.toList).length = 2 * d.size := by rw [cellsL_len]; simp
  by_cases ht : t < d.size * 2
  · have hj : t / 2 < d.size := by omega
    have h1 : (Sort.flatK encL 2 d)[t]! = (encL d[t / 2]!)[t % 2]! := Sort.get_flatK _ _ _ _ ht
    have h2 : (Sort.flatK encL 2 d).toList[t]? = some ((encL d[t / 2]!)[t % 2]!) := by
      rw [← h1, Array.getElem?_toList, Array.getElem?_eq_getElem (by simpa using ht), getElem!_pos]
    have h3 : d.toList[t / 2]? = some d[t / 2]! := by
      rw [Array.getElem?_toList, Array.getElem?_eq_getElem hj, getElem!_pos]
    obtain ⟨a1, a2⟩ := cellsL_at d.toList (t / 2) _ h3
    rw [h2]
    rcases Nat.mod_two_eq_zero_or_one t with hm | hm
    · rw [hm, show t = 2 * (t / 2) by omega, a1, show 2 * (t / 2) / 2 = t / 2 by omega]; rfl
    · rw [hm, show t = 2 * (t / 2) + 1 by omega, a2, show (2 * (t / 2) + 1) / 2 = t / 2 by omega]; rfl
  · rw [List.getElem?_eq_none (by simp; omega), List.getElem?_eq_none (by rw [hlen]; omega)]
theorem sortedF_heap (w : World) (m g : Nat) (F : Array Value) (os : Array Obj) (k : Nat) (hk : k < w.heap.size) :
    (Sort.grow (Sort.putRow id (Sort.ahead w m) g 0 F) os).heap[k]? = if k = g then (w.heap[k]?).map (Sort.onCells (Sort.putCells id 0 F)) else w.heap[k]? := by
  unfold Sort.grow Sort.putRow Sort.mapBlock Sort.ahead
  simp only
  rw [Array.getElem?_append_left (by simpa using hk), Array.getElem?_modify]
  by_cases e : g = k
  · subst e; simp
  · rw [if_neg e, if_neg (Ne.symm e)]
theorem so_sortedL {base n c g m : Nat} {w : World} {vs us : List Value} {os : Array Obj} (h : SO seL base w (.slice (some ⟨g, 0, none⟩) n c) n vs) (hl : us.length = 2 * n) (h1 : ∀ u ∈ us, u.oneCell' = true) :
    SO seL base (Sort.grow (Sort.putRow id (Sort.ahead w m) g 0 us.toArray) os) (.slice (some ⟨g, 0, none⟩) n c) n us := by
  rcases h.own.2 with ⟨hv, -⟩ | ⟨g', cap, cur, hv, hb, hh, hc, hm, hsz, ht⟩
  · cases hv
  · obtain ⟨rfl, rfl⟩ : g = g' ∧ c = cap := by simpa using hv
    refine ⟨⟨by rw [hl]; show 2 * n = n * 2; omega, .inr ⟨g, c, Sort.putCells id 0 us.toArray cur, rfl, hb, ?_, hc, hm, by simpa [Sort.putCells] using hsz, ?_⟩⟩, by rw [hl]; rfl, h1⟩
    · rw [sortedF_heap _ _ _ _ _ _ (Array.getElem?_eq_some_iff.1 hh).1, if_pos rfl, hh]; rfl
    · have hcs : cur.size = c * 2 := hsz
      apply List.ext_getElem?
      intro k
      show (List.take (n * 2) _)[k]? = _
      rw [List.getElem?_take]
      by_cases hk : k < n * 2
      · rw [if_pos hk]
        have h1 : k < cur.size := by omega
        have h2 : k < us.length := by omega
        simp [Sort.putCells, h1, h2, Array.getElem?_eq_getElem]
      · rw [if_neg hk, List.getElem?_eq_none (by omega)]
theorem so_sortedL_out {g m : Nat} {w : World} {F : Array Value} {os : Array Obj} : Out (fun k => k = g) w (Sort.grow (Sort.putRow id (Sort.ahead w m) g 0 F) os) :=
  ⟨rfl, rfl, rfl, by simp [Sort.grow, Sort.putRow, Sort.mapBlock, Sort.ahead], fun k hk hn => by
    rw [sortedF_heap _ _ _ _ _ _ hk, if_neg hn]⟩
theorem cmpLays8 (blk off size : Nat) (w : World) : CmpLays Try.prog 32 #[] encL 2 cmpB blk off size w := fun _ _ _ _ x y => wkCompare x y _
/-- Sorted, and none twice: it rises strictly. -/
theorem sorted_strict {d d' : Array Lk} (hp : Sort.PermIn 0 d.size d d') (hs : Sort.SortedIn (ltOf cmpB) 0 d.size d') (hd : d.toList.Nodup) : d'.toList.length = d.size ∧ (∀ y, y ∈ d'.toList ↔ y ∈ d.toList) ∧ d'.toList.Pairwise (lessB · · = true) := by
  obtain ⟨e1, -, e3⟩ := hp
  have e4 : d'.toList.Perm d.toList := by
    have a1 : d'.extract 0 d.size = d' := by rw [← e1]; simp
    have a2 : d.extract 0 d.size = d := by simp
    rwa [a1, a2] at e3
  refine ⟨by simpa using e1, fun y => e4.mem_iff, ?_⟩
  rw [List.pairwise_iff_getElem]
  intro i j hi hj hij
  have hi' : i < d'.size := by simpa using hi
  have hj' : j < d'.size := by simpa using hj
  have h1 := hs i j (Nat.zero_le _) hij (by rw [← e1]; exact hj')
  rw [ltOf_cmpB, getElem!_pos d' i hi', getElem!_pos d' j hj'] at h1
  have hnd : d'.toList.Nodup := e4.nodup_iff.2 hd
  cases h2 : lessB d'[i] d'[j] with
  | true => simpa using h2
  | false =>
    have h3 := lessB_tri _ _ h2 h1
    have h4 := (List.nodup_iff_pairwise_ne.1 hnd)
    rw [List.pairwise_iff_getElem] at h4
    exact absurd (by simpa using h3) (h4 i j hi hj hij)
/-- slices.SortFunc of a list that the call made. -/
theorem wsortL {base : Nat} {w : World} {v : Value} {ls : List Lk} (h : SO seL base w v ls.length (cellsL ls)) (hn : ls.length ≤ 4000000) (hd : ls.Nodup) :
    Calls Try.prog 31 #[v, .func (.func 32) #[] #[]] w fun e w' => e = .returned (.tuple #[]) ∧ (∃ ms : List Lk, ms.length = ls.length ∧ (∀ y, y ∈ ms ↔ y ∈ ls) ∧ ms.Pairwise (lessB · · = true) ∧ SO seL base w' v ls.length (cellsL ms)) ∧ Below base w w' := by
  rcases h.own.2 with ⟨rfl, h0⟩ | ⟨g, cap, cur, rfl, hb, hh, -⟩
  · have hz : ls = [] := List.eq_nil_of_length_eq_zero h0
    subst hz
    have hcon := AnyF.slices_SortFunc_none Try.sortL none 0 (.func (.func 32) #[] #[]) w
    change Calls Try.prog 31 _ _ _ at hcon
    refine hcon.mono ?_
    rintro e w' ⟨h1, rfl⟩
    exact ⟨h1, ⟨[], rfl, fun y => Iff.rfl, List.Pairwise.nil, h⟩, Below.refl _ _⟩
  · obtain ⟨A, c, e1, hsb, -⟩ := h.form
    obtain ⟨rfl, rfl⟩ : A = some ⟨g, 0, none⟩ ∧ c = cap := by
      simp at e1; exact ⟨e1.1.symm, e1.2.symm⟩
    rw [show seL.s * ls.length = 2 * ls.length from rfl] at hsb
    have hF : (Sort.flatK encL 2 ls.toArray).toList = cellsL ls := flat_cellsL ls.toArray
    have hH : Sort.HoldsK encL 2 w g 0 ls.toArray := fun j hj => by
      have hj' : j < (cellsL ls).length := by rw [← hF]; simpa using hj
      obtain ⟨x, hx⟩ : ∃ x, (cellsL ls)[j]? = some x := ⟨_, List.getElem?_eq_getElem hj'⟩
      obtain ⟨g1, o1, e2, hc⟩ := hsb.at_ hx
      cases e2
      refine ⟨?_, frozen_of_row _ _ _ _ _ hh⟩
      rw [hc, getElem!_pos (Sort.flatK encL 2 ls.toArray) j hj]
      rw [← hF, Array.getElem?_toList, Array.getElem?_eq_getElem hj] at hx
      exact congrArg some (Option.some.inj hx).symm
    have hlt := (Array.getElem?_eq_some_iff.1 hh).1
    have eg : ∀ args w, (callFunc 32 args).run Try.prog w = .ok (.enter 32 args) w := enters_of Try.func32 (by kernel_rfl) rfl
    have hcon := AnyQ.slices_SortFunc Try.sortL 2 Try.isAgg34 Try.sizeOf34 encL (fun _ => rfl) (fun x v hv => by simp [encL] at hv; rcases hv with rfl | rfl <;> rfl) cmpB swo_cmpB 32 #[] g 0 c ls.toArray w eg (cmpLays8 _ _ _ _) hH hlt (by simp; omega)
    change Calls Try.prog 31 _ _ _ at hcon
    refine hcon.mono ?_
    rintro e w' ⟨h1, d', m, os, hp, hs, rfl⟩
    obtain ⟨s1, s2, s3⟩ := sorted_strict hp hs hd
    have hFd : Sort.flatK encL 2 d' = (cellsL d'.toList).toArray := by rw [← flat_cellsL]
    refine ⟨h1, ⟨d'.toList, by simpa using s1, s2, s3, ?_⟩, ?_⟩
    · unfold sortWorldK Sort.putRowK
      rw [hFd]
      exact so_sortedL h (by rw [cellsL_len, s1]; simp) (cellsL_one _)
    · exact so_sortedL_out.below (by omega) fun i hi e => by omega
end Go.Proofs.Ytghnafknbgmagaa
