import Derived.Test.YtcpifanhmkblmaaJBK
import Derived.Test.YtcpifanhmkblmaaJBJ
/- Layer 9: slices.SortFunc of notes that the call itself made, by its contract. -/
namespace Go.Proofs.Ytcpifanhmkblmaa
set_option maxRecDepth 100000
set_option maxRecDepth 100000
open Go.RowKit

theorem flat_cellsR (d : Array Rd) : (Sort.flatK rdC 4 d).toList = cellsR d.toList := by
  apply List.ext_getElem?
  intro t
  have hlen : (cellsR d.toList).length = 4 * d.size := by rw [cellsR_len]; simp
  by_cases ht : t < d.size * 4
  · have hj : t / 4 < d.size := by omega
    have h1 : (Sort.flatK rdC 4 d)[t]! = (rdC d[t / 4]!)[t % 4]! := Sort.get_flatK _ _ _ _ ht
    have h2 : (Sort.flatK rdC 4 d).toList[t]? = some ((rdC d[t / 4]!)[t % 4]!) := by
      rw [← h1, Array.getElem?_toList, Array.getElem?_eq_getElem (by simpa using ht), getElem!_pos]
    have h3 : d.toList[t / 4]? = some d[t / 4]! := by
      rw [Array.getElem?_toList, Array.getElem?_eq_getElem hj, getElem!_pos]
    obtain ⟨a1, a2, a3, a4⟩ := cellsR_at d.toList (t / 4) _ h3
    rw [h2]
    have hm : t % 4 = 0 ∨ t % 4 = 1 ∨ t % 4 = 2 ∨ t % 4 = 3 := by omega
    rcases hm with hm | hm | hm | hm
    · rw [hm, show t = 4 * (t / 4) by omega, a1, show 4 * (t / 4) / 4 = t / 4 by omega]; rfl
    · rw [hm, show t = 4 * (t / 4) + 1 by omega, a2, show (4 * (t / 4) + 1) / 4 = t / 4 by omega]; rfl
    · rw [hm, show t = 4 * (t / 4) + 2 by omega, a3, show (4 * (t / 4) + 2) / 4 = t / 4 by omega]; rfl
    · rw [hm, show t = 4 * (t / 4) + 3 by omega, a4, show (4 * (t / 4) + 3) / 4 = t / 4 by omega]; rfl
  · rw [List.getElem?_eq_none (by simp; omega), List.getElem?_eq_none (by rw [hlen]; omega)]
theorem sortedF_heap (w : World) (m g : Nat) (F : Array Value) (os : Array Obj) (k : Nat) (hk : k < w.heap.size) :
    (Sort.grow (Sort.putRow id (Sort.ahead w m) g 0 F) os).heap[k]? = if k = g then (w.heap[k]?).map (Sort.onCells (Sort.putCells id 0 F)) else w.heap[k]? := by
  unfold Sort.grow Sort.putRow Sort.mapBlock Sort.ahead
  simp only
  rw [Array.getElem?_append_left (by simpa using hk), Array.getElem?_modify]
  by_cases e : g = k
  · subst e; simp
  · rw [if_neg e, if_neg (Ne.symm e)]
theorem so_sortedR {base n c g m : Nat} {w : World} {vs us : List Value} {os : Array Obj} (h : SO seR base w (.slice (some ⟨g, 0, none⟩) n c) n vs) (hl : us.length = 4 * n) (h1 : ∀ u ∈ us, u.oneCell' = true) :
    SO seR base (Sort.grow (Sort.putRow id (Sort.ahead w m) g 0 us.toArray) os) (.slice (some ⟨g, 0, none⟩) n c) n us := by
  rcases h.own.2 with ⟨hv, -⟩ | ⟨g', cap, cur, hv, hb, hh, hc, hm, hsz, ht⟩
  · cases hv
  · obtain ⟨rfl, rfl⟩ : g = g' ∧ c = cap := by simpa using hv
    refine ⟨⟨by rw [hl]; show 4 * n = n * 4; omega, .inr ⟨g, c, Sort.putCells id 0 us.toArray cur, rfl, hb, ?_, hc, hm, by simpa [Sort.putCells] using hsz, ?_⟩⟩, by rw [hl]; rfl, h1⟩
    · rw [sortedF_heap _ _ _ _ _ _ (Array.getElem?_eq_some_iff.1 hh).1, if_pos rfl, hh]; rfl
    · have hcs : cur.size = c * 4 := hsz
      apply List.ext_getElem?
      intro k
      show (List.take (n * 4) _)[k]? = _
      rw [List.getElem?_take]
      by_cases hk : k < n * 4
      · rw [if_pos hk]
        have h1 : k < cur.size := by omega
        have h2 : k < us.length := by omega
        simp [Sort.putCells, h1, h2, Array.getElem?_eq_getElem]
      · rw [if_neg hk, List.getElem?_eq_none (by omega)]
theorem so_sortedR_out {g m : Nat} {w : World} {F : Array Value} {os : Array Obj} : Out (fun k => k = g) w (Sort.grow (Sort.putRow id (Sort.ahead w m) g 0 F) os) :=
  ⟨rfl, rfl, rfl, by simp [Sort.grow, Sort.putRow, Sort.mapBlock, Sort.ahead], fun k hk hn => by
    rw [sortedF_heap _ _ _ _ _ _ hk, if_neg hn]⟩
theorem cmpLays9 (blk off size : Nat) (w : World) : CmpLays Try.prog 52 #[] rdC 4 cmpR blk off size w := fun _ _ _ _ x y => wpCmpR x y _
/-- Sorted, and none twice: it stands in order. -/
theorem sortedR_strict {d d' : Array Rd} (hp : Sort.PermIn 0 d.size d d') (hs : Sort.SortedIn (ltOf cmpR) 0 d.size d') (hd : d.toList.Nodup) : d'.toList.length = d.size ∧ (∀ y, y ∈ d'.toList ↔ y ∈ d.toList) ∧ d'.toList.Pairwise (aheadP · · = true) := by
  obtain ⟨e1, -, e3⟩ := hp
  have e4 : d'.toList.Perm d.toList := by
    have a1 : d'.extract 0 d.size = d' := by rw [← e1]; simp
    have a2 : d.extract 0 d.size = d := by simp
    rwa [a1, a2] at e3
  refine ⟨by simpa using e1, fun y => e4.mem_iff, ?_⟩
  rw [List.pairwise_iff_getElem]
  intro i j hi hj hij
  have hi' : i < d'.size := by simpa using hi
  have hj' : j < d'.size := by simpa using hj
  have h1 := hs i j (Nat.zero_le _) hij (by rw [← e1]; exact hj')
  rw [ltOf_cmpR, getElem!_pos d' i hi', getElem!_pos d' j hj'] at h1
  have hnd : d'.toList.Nodup := e4.nodup_iff.2 hd
  cases h2 : aheadP d'[i] d'[j] with
  | true => simpa using h2
  | false =>
    have h3 := ahead_tri _ _ h2 h1
    have h4 := (List.nodup_iff_pairwise_ne.1 hnd)
    rw [List.pairwise_iff_getElem] at h4
    exact absurd (by simpa using h3) (h4 i j hi hj hij)
/-- slices.SortFunc of a list that the call made. -/
theorem wsortR {base : Nat} {w : World} {v : Value} {ls : List Rd} (h : SO seR base w v ls.length (cellsR ls)) (hn : ls.length ≤ 4000000) (hd : ls.Nodup) :
    Calls Try.prog 51 #[v, .func (.func 52) #[] #[]] w fun e w' => e = .returned (.tuple #[]) ∧ (∃ ms : List Rd, ms.length = ls.length ∧ (∀ y, y ∈ ms ↔ y ∈ ls) ∧ ms.Pairwise (aheadP · · = true) ∧ SO seR base w' v ls.length (cellsR ms)) ∧ Below base w w' := by
  rcases h.own.2 with ⟨rfl, h0⟩ | ⟨g, cap, cur, rfl, hb, hh, -⟩
  · have hz : ls = [] := List.eq_nil_of_length_eq_zero h0
    subst hz
    have hcon := AnyF.slices_SortFunc_none Try.sortR none 0 (.func (.func 52) #[] #[]) w
    change Calls Try.prog 51 _ _ _ at hcon
    refine hcon.mono ?_
    rintro e w' ⟨h1, rfl⟩
    exact ⟨h1, ⟨[], rfl, fun y => Iff.rfl, List.Pairwise.nil, h⟩, Below.refl _ _⟩
  · obtain ⟨A, c, e1, hsb, -⟩ := h.form
    obtain ⟨rfl, rfl⟩ : A = some ⟨g, 0, none⟩ ∧ c = cap := by
      simp at e1; exact ⟨e1.1.symm, e1.2.symm⟩
    rw [show seR.s * ls.length = 4 * ls.length from rfl] at hsb
    have hF : (Sort.flatK rdC 4 ls.toArray).toList = cellsR ls := flat_cellsR ls.toArray
    have hH : Sort.HoldsK rdC 4 w g 0 ls.toArray := fun j hj => by
      have hj' : j < (cellsR ls).length := by rw [← hF]; simpa using hj
      obtain ⟨x, hx⟩ : ∃ x, (cellsR ls)[j]? = some x := ⟨_, List.getElem?_eq_getElem hj'⟩
      obtain ⟨g1, o1, e2, hc⟩ := hsb.at_ hx
      cases e2
      refine ⟨?_, frozen_of_row _ _ _ _ _ hh⟩
      rw [hc, getElem!_pos (Sort.flatK rdC 4 ls.toArray) j hj]
      rw [← hF, Array.getElem?_toList, Array.getElem?_eq_getElem hj] at hx
      exact congrArg some (Option.some.inj hx).symm
    have hlt := (Array.getElem?_eq_some_iff.1 hh).1
    have eg : ∀ args w, (callFunc 52 args).run Try.prog w = .ok (.enter 52 args) w := enters_of Try.func52 (by kernel_rfl) rfl
    have hcon := AnyQ.slices_SortFunc Try.sortR 4 Try.isAgg31 Try.sizeOf31 rdC (fun _ => rfl) (fun x v hv => by simp [rdC] at hv; rcases hv with rfl | rfl | rfl | rfl <;> rfl) cmpR swo_cmpR 52 #[] g 0 c ls.toArray w eg (cmpLays9 _ _ _ _) hH hlt (by simp; omega)
    change Calls Try.prog 51 _ _ _ at hcon
    refine hcon.mono ?_
    rintro e w' ⟨h1, d', m, os, hp, hs, rfl⟩
    obtain ⟨s1, s2, s3⟩ := sortedR_strict hp hs hd
    have hFd : Sort.flatK rdC 4 d' = (cellsR d'.toList).toArray := by rw [← flat_cellsR]
    refine ⟨h1, ⟨d'.toList, by simpa using s1, s2, s3, ?_⟩, ?_⟩
    · unfold sortWorldK Sort.putRowK
      rw [hFd]
      exact so_sortedR h (by rw [cellsR_len, s1]; simp) (cellsR_one _)
    · exact so_sortedR_out.below (by omega) fun i hi e => by omega
end Go.Proofs.Ytcpifanhmkblmaa
