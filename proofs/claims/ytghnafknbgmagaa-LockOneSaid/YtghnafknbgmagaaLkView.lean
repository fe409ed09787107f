/- Layer 8: what a map of locks says, as a plain list. -/
import Derived.Test.YtghnafknbgmagaaLkMap
namespace Go.Proofs.Ytghnafknbgmagaa
set_option maxRecDepth 100000
set_option maxRecDepth 100000
open Go.RowKit Go.Maps Go.ChangeMaps Go.MapKept

theorem holder_app (hs : List Hd) (l : Lk) (tx : Int) (k : Lk) : holderP (hs ++ [(l, tx)]) k = if k = l then some ((holderP hs k).getD tx) else holderP hs k := by
  unfold holderP
  rw [List.find?_append]
  cases h : hs.find? (fun h => lkEq h.1 k) with
  | some x => by_cases e : k = l <;> simp [e]
  | none =>
    by_cases e : k = l
    · subst e; simp [lkEq_is]
    · simp [lkEq_is, e, Ne.symm e]
theorem holder_but (hs : List Hd) (l k : Lk) : holderP (hs.filter fun h => !decide (h.1 = l)) k = if k = l then none else holderP hs k := by
  induction hs with
  | nil => simp [holderP]
  | cons x hs ih =>
    unfold holderP at ih ⊢
    by_cases hx : x.1 = l
    · rw [List.filter_cons_of_neg (by simp [hx]), ih]
      by_cases e : k = l
      · simp [e]
      · rw [if_neg e, if_neg e, List.find?_cons_of_neg (by rw [lkEq_is, hx]; simpa using Ne.symm e)]
    · rw [List.filter_cons_of_pos (by simp [hx])]
      by_cases e2 : x.1 = k
      · rw [List.find?_cons_of_pos (by rw [lkEq_is]; simpa using e2), List.find?_cons_of_pos (by rw [lkEq_is]; simpa using e2)]
        rw [if_neg (by rw [← e2]; exact hx)]
      · rw [List.find?_cons_of_neg (by rw [lkEq_is]; simpa using e2), ih, List.find?_cons_of_neg (by rw [lkEq_is]; simpa using e2)]

/-- The map reads as the list. -/
structure View (D : DataW Unit) (hs : List Hd) : Prop where
  once : Once hs
  sz : ∀ h ∈ hs, Sz h.1
  wf : ∀ h ∈ hs, (Lit.int .i64 h.2).wf = true
  tidy : Tidy D
  size : Maps.size D = hs.length
  has : ∀ l, Sz l → Maps.has D (keyLit l) = (holderP hs l).isSome
  at_ : ∀ l, Sz l → D.atKey (keyLit l) (.lit (.int .i64 0)) = .lit (.int .i64 ((holderP hs l).getD 0))
theorem View.nil : View (.map []) [] := ⟨Once.nil, by simp, by simp, tidy_empty, rfl, fun l _ => rfl, fun l _ => rfl⟩
theorem View.put {D : DataW Unit} {hs : List Hd} (h : View D hs) {l : Lk} {tx : Int} (hl : Sz l) (ht : (Lit.int .i64 tx).wf = true) (hn : holderP hs l = none) : View (D.put (keyLit l) (.lit (.int .i64 tx))) (hs ++ [(l, tx)]) := by
  have hhas := h.has l hl
  rw [hn] at hhas
  refine ⟨?_, fun x hx => ?_, fun x hx => ?_, h.tidy.put (keyLit_is l) _, ?_, fun k hk => ?_, fun k hk => ?_⟩
  · show ((hs ++ [(l, tx)]).map (·.1)).Nodup
    rw [List.map_append, List.map_cons, List.map_nil]
    refine List.nodup_append.2 ⟨h.once, by simp, fun a ha b hb => ?_⟩
    rw [List.mem_singleton.1 hb]
    rintro rfl
    obtain ⟨x, hx, e⟩ := List.mem_map.1 ha
    exact holder_none.1 hn x.2 (by rw [← e]; exact hx)
  · rcases List.mem_append.1 hx with e | e
    · exact h.sz x e
    · rw [List.mem_singleton.1 e]; exact hl
  · rcases List.mem_append.1 hx with e | e
    · exact h.wf x e
    · rw [List.mem_singleton.1 e]; exact ht
  · rw [size_put h.tidy, hhas, h.size]; simp
  · rw [holder_app]
    by_cases e : k = l
    · subst e; rw [has_put_same h.tidy.isMap (keyLit_is _), if_pos rfl]; rfl
    · rw [has_put_other (fun e2 => e (keyLit_inj hk hl e2)), if_neg e]; exact h.has k hk
  · rw [holder_app]
    by_cases e : k = l
    · subst e; rw [atKey_put_same h.tidy.isMap (keyLit_is _), if_pos rfl, hn]; rfl
    · rw [atKey_put_other (fun e2 => e (keyLit_inj hk hl e2)), if_neg e]; exact h.at_ k hk
theorem but_len {hs : List Hd} (h : Once hs) {l : Lk} {tx : Int} (hm : (l, tx) ∈ hs) : (hs.filter fun h => !decide (h.1 = l)).length + 1 = hs.length := by
  induction hs with
  | nil => cases hm
  | cons x hs ih =>
    obtain ⟨n1, n2⟩ := List.nodup_cons.1 (show (x.1 :: hs.map (·.1)).Nodup from h)
    by_cases e : x.1 = l
    · rw [List.filter_cons_of_neg (by simp [e])]
      have : (hs.filter fun h => !decide (h.1 = l)) = hs := List.filter_eq_self.2 fun y hy => by
        have : y.1 ≠ l := fun e2 => n1 (List.mem_map.2 ⟨y, hy, by rw [e2, e]⟩)
        simpa using this
      rw [this]; rfl
    · rw [List.filter_cons_of_pos (by simp [e])]
      rcases List.mem_cons.1 hm with e2 | e2
      · exact absurd (by rw [← e2]) e
      · simp only [List.length_cons]
        rw [ih n2 e2]
theorem View.del {D : DataW Unit} {hs : List Hd} (h : View D hs) {l : Lk} {tx : Int} (hl : Sz l) (hm : (l, tx) ∈ hs) : View (D.del (keyLit l)) (hs.filter fun h => !decide (h.1 = l)) := by
  have hhas := h.has l hl
  rw [(holder_some h.once).2 hm] at hhas
  refine ⟨List.Nodup.sublist (List.Sublist.map _ List.filter_sublist) h.once, fun x hx => h.sz x (List.mem_filter.1 hx).1, fun x hx => h.wf x (List.mem_filter.1 hx).1, h.tidy.del _, ?_, fun k hk => ?_, fun k hk => ?_⟩
  · have h1 := size_del (k := keyLit l) h.tidy
    rw [hhas, h.size] at h1
    have h2 := but_len h.once hm
    simp at h1
    omega
  · rw [holder_but]
    by_cases e : k = l
    · subst e; rw [has_del_same, if_pos rfl]; rfl
    · rw [has_del_other (fun e2 => e (keyLit_inj hk hl e2)), if_neg e]; exact h.has k hk
  · rw [holder_but]
    by_cases e : k = l
    · subst e; rw [atKey_del_same, if_pos rfl]; rfl
    · rw [atKey_del_other (fun e2 => e (keyLit_inj hk hl e2)), if_neg e]; exact h.at_ k hk
/-- What is told of a list is told of one with the same members. -/
theorem View.perm {D : DataW Unit} {hs hs2 : List Hd} (h : View D hs) (h2 : Once hs2) (hm : ∀ x, x ∈ hs2 ↔ x ∈ hs) (hl : hs2.length = hs.length) : View D hs2 := by
  have hh : ∀ l, holderP hs2 l = holderP hs l := fun l => by
    cases e : holderP hs l with
    | none => exact holder_none.2 fun tx hx => holder_none.1 e tx ((hm _).1 hx)
    | some tx => exact (holder_some h2).2 ((hm _).2 ((holder_some h.once).1 e))
  exact ⟨h2, fun x hx => h.sz x ((hm x).1 hx), fun x hx => h.wf x ((hm x).1 hx), h.tidy, by rw [h.size, hl], fun l hl => by rw [hh]; exact h.has l hl, fun l hl => by rw [hh]; exact h.at_ l hl⟩

/-- Block r is a map that holds just these. -/
def MapAt (w : World) (r : Nat) (hs : List Hd) : Prop := ∃ D : DataW Unit, w.ownsMap Try.prog 34 (plainElem Try.prog 2) r hs.length D ∧ View D hs
theorem owns_tight {P : Program} {k : TypeId} {R : Value → Option (DataW Unit × List MemPlace)} {w : World} {b n : Nat} {D : DataW Unit} (h : w.ownsMap P k R b n D) : w.ownsMap P k R b (Maps.size D) D := by
  obtain ⟨es, clock, h1, h2, h3, rfl⟩ := h
  refine ⟨es, clock, h1, h2, ?_, rfl⟩
  rw [size_eq, length_sorted]
  simp
theorem MapAt.block {w w' : World} {r : Nat} {hs : List Hd} (h : MapAt w r hs) (hb : w'.heap[r]? = w.heap[r]?) : MapAt w' r hs := by
  obtain ⟨D, ⟨es, clock, h1, h2⟩, hv⟩ := h
  exact ⟨D, ⟨es, clock, hb.trans h1, h2⟩, hv⟩
theorem MapAt.lt {w : World} {r : Nat} {hs : List Hd} (h : MapAt w r hs) : r < w.heap.size := by
  obtain ⟨D, ho, -⟩ := h
  exact ho.lt
theorem MapAt.new (w : World) : MapAt (w.alloc (.map #[] 0)) w.heap.size [] := ⟨_, World.ownsMap_made _ _ _ _, View.nil⟩
/-- The block is no list's, no struct's. -/
theorem MapAt.no {w : World} {r : Nat} {hs : List Hd} (h : MapAt w r hs) {cs : Array Value} {e : TypeId} {fr : Nat × Nat} {b : Nat} (hb : w.heap[b]? = some (.cells cs e fr)) : b ≠ r := by
  rintro rfl
  obtain ⟨D, ⟨es, clock, h1, -⟩, -⟩ := h
  rw [hb] at h1; cases h1
end Go.Proofs.Ytghnafknbgmagaa
