/- Layer 11: which version stands behind which, as the writes are gone through in the order of the commits. -/
import Derived.Test.YtbmgeobmmpaghaaGreatDoorSeM
set_option linter.unusedVariables false
namespace Go.Proofs.YtbmgeobmmpaghaaGreatDoor
set_option maxRecDepth 100000
open Go.RowKit Go.Maps Go.ChangeMaps Go.MapKept

/-- What stands behind a number in a list. -/
def succP : List Int → Int → Option Int
  | [], _ => none
  | [_], _ => none
  | a :: b :: l, v => if v = a then some b else succP (b :: l) v
theorem succP_none {L : List Int} {v : Int} (h : v ∉ L) : succP L v = none := by
  induction L with
  | nil => rfl
  | cons a L ih =>
    cases L with
    | nil => rfl
    | cons b L =>
      show (if v = a then some b else succP (b :: L) v) = none
      rw [if_neg (fun e => h (by rw [e]; exact List.mem_cons_self ..))]
      exact ih (fun k => h (List.mem_cons_of_mem _ k))
theorem lastD_cons (b : Int) (L : List Int) (a : Int) : (b :: L).getLastD a = L.getLastD b := by cases L <;> rfl
theorem lastD_mem (a : Int) (L : List Int) : L.getLastD a ∈ a :: L := by
  induction L generalizing a with
  | nil => simp
  | cons b L ih => rw [lastD_cons]; exact List.mem_cons_of_mem _ (ih b)
theorem lastD_app (a x : Int) (L : List Int) : (L ++ [x]).getLastD a = x := by
  induction L generalizing a with
  | nil => rfl
  | cons b L ih => rw [List.cons_append, lastD_cons]; exact ih b
theorem succP_app : ∀ (a : Int) (L : List Int) (x v : Int), (a :: L).Nodup → succP (a :: L ++ [x]) v = if v = L.getLastD a then some x else succP (a :: L) v
  | a, [], x, v, _ => by
    show (if v = a then some x else none) = _
    by_cases e : v = a <;> simp [e, succP]
  | a, b :: L, x, v, h => by
    obtain ⟨h1, h2⟩ := List.nodup_cons.1 h
    have ih := succP_app b L x v h2
    show (if v = a then some b else succP (b :: L ++ [x]) v) = _
    rw [ih, lastD_cons]
    show _ = if v = L.getLastD b then some x else if v = a then some b else succP (b :: L) v
    by_cases e : v = a
    · rw [if_pos e, if_neg (fun k => h1 (by rw [← e, k]; exact lastD_mem b L)), if_pos e]
    · rw [if_neg e, if_neg e]
theorem succP_mid : ∀ (A : List Int) (v : Int) (B : List Int), (A ++ v :: B).Nodup → succP (A ++ v :: B) v = B.head?
  | [], v, B, _ => by cases B <;> simp [succP]
  | a :: A, v, B, h => by
    obtain ⟨h1, h2⟩ := List.nodup_cons.1 h
    have ih := succP_mid A v B h2
    have hne : v ≠ a := fun e => h1 (by rw [← e]; simp)
    cases hA : A ++ v :: B with
    | nil => simp at hA
    | cons b L =>
      rw [hA] at ih
      show succP (a :: (A ++ v :: B)) v = _
      rw [hA]
      show (if v = a then some b else succP (b :: L) v) = _
      rw [if_neg hne]; exact ih
/-- Who writes an item, in the order of a list of writes. -/
def wOf (l : List Ac) (it : ByteArray) : List Int := (l.filter fun a => decide (a.item = it)).map (·.txn)
theorem wOf_next {l : List Ac} {j : Nat} {a : Ac} (h : l[j]? = some a) (it : ByteArray) : wOf (l.take (j + 1)) it = if it = a.item then wOf (l.take j) it ++ [a.txn] else wOf (l.take j) it := by
  unfold wOf
  rw [List.take_add_one, h, Option.toList_some, List.filter_append, List.map_append]
  by_cases e : it = a.item
  · subst e; simp
  · have e2 : ¬ a.item = it := fun k => e k.symm
    simp [e, e2]
/-- What the two maps hold behind some writes. -/
structure NxIs (l : List Ac) (nx : List (Vr × Value)) (nw : List (ByteArray × Value)) : Prop where
  nx : ∀ it v, getM nx (it, v) = (succP (0 :: wOf l it) v).map (.int .i64)
  nw : ∀ it, (getM nw it).getD (.int .i64 0) = .int .i64 ((wOf l it).getLastD 0)
theorem NxIs.nil : NxIs [] [] [] := ⟨fun it v => rfl, fun it => rfl⟩
theorem NxIs.step {l : List Ac} {j : Nat} {a : Ac} {nx : List (Vr × Value)} {nw : List (ByteArray × Value)} (h : NxIs (l.take j) nx nw) (ha : l[j]? = some a) (hd : (0 :: wOf (l.take j) a.item).Nodup) :
    NxIs (l.take (j + 1)) (putM nx (a.item, (wOf (l.take j) a.item).getLastD 0) (.int .i64 a.txn)) (putM nw a.item (.int .i64 a.txn)) where
  nx it v := by
    rw [getM_put, wOf_next ha]
    by_cases e : it = a.item
    · subst e
      rw [if_pos rfl, ← List.cons_append, succP_app _ _ _ _ hd]
      by_cases e2 : v = (wOf (l.take j) a.item).getLastD 0
      · rw [if_pos (by rw [e2]), if_pos e2]; rfl
      · rw [if_neg (fun k => e2 (Prod.mk.inj k).2), if_neg e2]
        exact h.nx _ _
    · rw [if_neg (fun k => e (Prod.mk.inj k).1), if_neg e]
      exact h.nx it v
  nw it := by
    rw [getM_put]
    by_cases e : it = a.item
    · subst e
      rw [if_pos rfl]
      rw [wOf_next ha, if_pos rfl, lastD_app]; rfl
    · rw [if_neg e, wOf_next ha, if_neg e]
      exact h.nw it
section
variable {cs : List Int} {ac : List Ac}
/-- Who writes an item, in the order of the commits. -/
def wrs (cs : List Int) (ac : List Ac) (it : ByteArray) : List Int := cs.filter fun n => writesP ac n it
theorem Right.wrs_ok (h : Right cs ac) (it : ByteArray) : (0 :: wrs cs ac it).Nodup := by
  refine List.nodup_cons.2 ⟨fun k => ?_, h.nd.sublist List.filter_sublist⟩
  have := h.pos 0 (List.mem_filter.1 k).1
  omega
/-- The next version is the one behind, in that order. -/
theorem Right.next_is (h : Right cs ac) {it : ByteArray} {v : Int} (hv : v = 0 ∨ writesP ac v it = true) : nextP cs ac it v = (succP (0 :: wrs cs ac it) v).getD 0 := by
  have hd := h.wrs_ok it
  unfold nextP
  by_cases h0 : v = 0
  · subst h0
    rw [if_pos rfl, List.drop_zero]
    have := succP_mid [] 0 (wrs cs ac it) hd
    rw [List.nil_append] at this
    rw [this]
    unfold wrs
    rw [List.head?_filter]
  · have hw : writesP ac v it = true := hv.resolve_left h0
    obtain ⟨b, hb, -, e, -⟩ := writesP_is.1 hw
    have hvc : v ∈ cs := by rw [← e]; exact h.txn b hb
    have hi := plcP_at hvc
    have hlt := (List.getElem?_eq_some_iff.1 hi).1
    have hp : (plcP cs v + 1).toNat = cs.idxOf v + 1 := by unfold plcP; rw [if_pos hvc]; omega
    rw [if_neg h0, hp]
    have hsplit : cs = cs.take (cs.idxOf v) ++ v :: cs.drop (cs.idxOf v + 1) := by
      conv => lhs; rw [← List.take_append_drop (cs.idxOf v) cs]
      rw [List.drop_eq_getElem_cons hlt, (List.getElem?_eq_some_iff.1 hi).2]
    have hwr : wrs cs ac it = (cs.take (cs.idxOf v)).filter (fun n => writesP ac n it) ++ v :: (cs.drop (cs.idxOf v + 1)).filter (fun n => writesP ac n it) := by
      unfold wrs
      conv => lhs; rw [hsplit]
      rw [List.filter_append, List.filter_cons_of_pos (by exact hw)]
    have h2 := succP_mid (0 :: (cs.take (cs.idxOf v)).filter (fun n => writesP ac n it)) v ((cs.drop (cs.idxOf v + 1)).filter (fun n => writesP ac n it)) (by rw [List.cons_append, ← hwr]; exact hd)
    rw [List.cons_append, ← hwr] at h2
    rw [h2, List.head?_filter]
/-- The writes, sorted by their places: of each item those who write it, in the order of the commits. -/
theorem Right.wOf_is (h : Right cs ac) {ms : List Ac} (hp : ms.Perm (ac.filter (·.wr))) (hs : ms.Pairwise fun a b => ¬ cs.idxOf b.txn < cs.idxOf a.txn) (it : ByteArray) : wOf ms it = wrs cs ac it := by
  have hmem : ∀ x, x ∈ wOf ms it ↔ writesP ac x it = true := fun x => by
    unfold wOf
    rw [List.mem_map, writesP_is]
    constructor
    · rintro ⟨a, ha, rfl⟩
      obtain ⟨k1, k2⟩ := List.mem_filter.1 ha
      have k3 := List.mem_filter.1 (hp.mem_iff.1 k1)
      exact ⟨a, k3.1, k3.2, rfl, by simpa using k2⟩
    · rintro ⟨a, ha, k1, k2, k3⟩
      exact ⟨a, List.mem_filter.2 ⟨hp.mem_iff.2 (List.mem_filter.2 ⟨ha, k1⟩), by simpa using k3⟩, k2⟩
  have htx : ∀ x, writesP ac x it = true → x ∈ cs := fun x hx => by
    obtain ⟨b, hb, -, e, -⟩ := writesP_is.1 hx
    rw [← e]; exact h.txn b hb
  -- of those that write the item none is there twice
  have honce : (wOf ms it).Nodup := by
    have h1 : ((ac.filter (·.wr)).filter fun a => decide (a.item = it)).map (·.txn) |>.Nodup := by
      rw [List.nodup_iff_pairwise_ne, List.pairwise_map, List.filter_filter]
      have key : ac.Pairwise fun a b => a.wr = true → b.wr = true → a.item = b.item → a.txn ≠ b.txn := by
        rw [List.pairwise_iff_getElem]
        intro i j hi hj hij k1 k2 k3 k4
        have h2 := h.once j ac[j] (List.getElem?_eq_getElem hj) k2
        have h3 := List.any_eq_false.1 h2 ac[i] (List.mem_of_getElem? (i := i) (by rw [List.getElem?_take, if_pos hij, List.getElem?_eq_getElem hi]))
        exact h3 (wrB_is.2 ⟨k1, k4, k3⟩)
      refine (key.filter _).imp_of_mem fun ha hb k => ?_
      have a1 := (List.mem_filter.1 ha).2
      have b1 := (List.mem_filter.1 hb).2
      simp at a1 b1
      exact k a1.2 b1.2 (a1.1.trans b1.1.symm)
    exact ((hp.filter _).map _).nodup_iff.2 h1
  have hlt : (wOf ms it).Pairwise fun a b => decide (cs.idxOf a < cs.idxOf b) = true := by
    have h1 : (wOf ms it).Pairwise fun a b => ¬ cs.idxOf b < cs.idxOf a := by
      unfold wOf
      rw [List.pairwise_map]
      exact hs.filter _
    rw [List.pairwise_iff_getElem] at h1 ⊢
    intro i j hi hj hij
    have h2 := h1 i j hi hj hij
    have h3 := (List.nodup_iff_pairwise_ne.1 honce)
    rw [List.pairwise_iff_getElem] at h3
    have h4 := h3 i j hi hj hij
    have h5 : cs.idxOf (wOf ms it)[i] ≠ cs.idxOf (wOf ms it)[j] := fun e => h4 (by
      have e1 := plcP_at (htx _ ((hmem _).1 (List.getElem_mem hi)))
      have e2 := plcP_at (htx _ ((hmem _).1 (List.getElem_mem hj)))
      rw [e, e2] at e1
      exact (Option.some.inj e1).symm)
    simp only [decide_eq_true_eq]
    omega
  refine strict_ext (lt := fun a b => decide (cs.idxOf a < cs.idxOf b)) (fun a => by simp) (fun a b k => by simp at k ⊢; omega) _ _ hlt ?_ fun x => ?_
  · have h1 : cs.Pairwise fun a b => decide (cs.idxOf a < cs.idxOf b) = true := by
      rw [List.pairwise_iff_getElem]
      intro i j hi hj hij
      rw [idx_of h.nd (List.getElem?_eq_getElem hi), idx_of h.nd (List.getElem?_eq_getElem hj)]
      simpa using hij
    exact h1.filter _
  · rw [hmem]
    unfold wrs
    rw [List.mem_filter]
    exact ⟨fun k => ⟨htx x k, k⟩, fun k => k.2⟩
end
end Go.Proofs.YtbmgeobmmpaghaaGreatDoor
