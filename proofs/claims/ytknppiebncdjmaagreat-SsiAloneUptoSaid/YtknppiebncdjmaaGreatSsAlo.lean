/- Layer 10, plain: transactions one behind the other; scripts without reads. -/
import Derived.Test.YtknppiebncdjmaaGreatJBL
import Derived.Test.YtknppiebncdjmaaGreatJAK
set_option linter.unusedVariables false
namespace Go.Proofs.YtknppiebncdjmaaGreat
set_option maxRecDepth 100000

section
variable {c : Cp10} {rows : List Lk} {X Y : Pl10} {o : OpX} {mo now : Int} {gs : List Run10}
structure Alo (X : Pl10) (tx : Int) : Prop where
  al : Al10 X.S
  on : ∀ r ∈ X.rs, r.over = false → r.tx = tx
theorem strip_to {rs gs : List Run10} (h : rs.map strip = gs.map strip) {i : Nat} {r : Run10} (hi : rs[i]? = some r) : ∃ g, gs[i]? = some g ∧ strip r = strip g := by
  have h1 := congrArg (fun l => l[i]?) h
  simp only [List.getElem?_map, hi, Option.map_some] at h1
  cases hg : gs[i]? with
  | none => rw [hg] at h1; simp at h1
  | some g => rw [hg] at h1; exact ⟨g, rfl, by simpa using h1⟩
theorem Alo.empty {tx : Int} (h : Alo X tx) (I : Inv10 c X.S X.vs gs now) (tw : X.rs.map strip = gs.map strip) (hno : ofW X.rs tx = -1) : X.S.list = [] := by
  rcases h.al with e | ⟨t, e, e0, -⟩
  · exact e
  · exfalso
    obtain ⟨i, g, hi, ht, -, -, -, -, h1, -⟩ := I.tr t (by rw [e]; exact List.mem_cons_self ..)
    obtain ⟨r, hr, er⟩ := strip_to tw.symm hi
    have hov : r.over = false := by rw [← (strip_is er).2.1]; exact (h1 e0).1
    have hm := List.mem_of_getElem? hr
    rcases ofW_is X.rs tx with ⟨-, h2⟩ | ⟨j, q, h2, -⟩
    · exact h2 r hm ⟨h.on r hm hov, hov⟩
    · omega
theorem Alo.begin (I : Inv10 c X.S X.vs gs now) (tw : X.rs.map strip = gs.map strip) (he : X.S.list = []) (hc : 1 ≤ c.act) (ho : o.do_ = 0) : (doP c rows X o mo).1 = 0 ∧ ∃ r, (doP c rows X o mo).2.rs = X.rs ++ [r] ∧ r.tx = X.S.next + 1 ∧ Alo (doP c rows X o mo).2 r.tx := by
  obtain ⟨h1, h2⟩ := Al10.began (S := X.S) he hc
  unfold doP
  rw [if_pos ho, if_pos h1]
  have e : (begin10 c X.S).1.1 = X.S.next + 1 := by
    unfold begin10 at h1 ⊢
    split
    · rename_i h3; rw [if_pos h3] at h1; cases h1
    · rfl
  refine ⟨h1, _, rfl, e, h2, fun r hr hov => ?_⟩
  rcases List.mem_append.1 hr with hr | hr
  · obtain ⟨i, hi⟩ := List.mem_iff_getElem?.1 hr
    obtain ⟨g, hg, eg⟩ := strip_to tw hi
    obtain ⟨t, ht, -⟩ := I.al i g hg (by rw [← hov]; exact (strip_is eg).2.1.symm)
    rw [he] at ht; cases ht
  · rw [List.mem_singleton.1 hr]
theorem Alo.do {tx : Int} (h : Alo X tx) (I : Inv10 c X.S X.vs gs now) (tw : X.rs.map strip = gs.map strip) (hn : now ≤ 4611686018427387904) (hd : o.do_ ≠ 0) (ht : o.tx = tx) :
    ((doP c rows X o mo).1 = 0 ∨ (doP c rows X o mo).1 = 4) ∧ Alo (doP c rows X o mo).2 tx ∧ (o.do_ = 4 → (doP c rows X o mo).1 = 0 ∧ (ofW X.rs tx ≠ -1 → (doP c rows X o mo).2.S.list = [])) := by
  subst ht
  rcases ofW_is X.rs o.tx with ⟨h1, -⟩ | ⟨i, r, h1, hi, htx, hov⟩
  · rw [doP_none hd h1]; exact ⟨.inl rfl, h, fun _ => ⟨rfl, fun hh => absurd h1 hh⟩⟩
  rw [doP_some hd h1 hi]
  obtain ⟨g, hg, eg⟩ := strip_to tw hi
  have gov : g.over = false := by rw [← hov]; exact (strip_is eg).2.1.symm
  have gtx : g.tx = o.tx := by rw [← htx]; exact (strip_is eg).1.symm
  have on : ∀ (S : St10) (vs : List Ver10) (r' : Run10), r'.tx = r.tx → ∀ q ∈ (⟨S, vs, X.rs.set i r'⟩ : Pl10).rs, q.over = false → q.tx = o.tx := fun S vs r' e q hq ho => by
    rcases List.mem_or_eq_of_mem_set hq with hq | rfl
    · exact h.on q hq ho
    · rw [e]; exact htx
  have l0 : Al10 ({ X.S with list := [] } : St10) := .inl rfl
  unfold doR
  split
  · obtain ⟨k1, k2⟩ := h.al.read I hg gov o.at_
    rw [gtx] at k1 k2
    refine ⟨k1, ⟨k2, on _ _ _ ?_⟩, fun e => by omega⟩
    split
    · unfold seesP; split <;> rfl
    · rfl
  split
  · obtain ⟨k1, k2⟩ := h.al.scan I hg gov o.at_.1 o.at_.2 o.to_
    rw [gtx] at k1 k2
    refine ⟨k1, ⟨k2, on _ _ _ ?_⟩, fun e => by omega⟩
    split
    · exact (sees_fields X.vs _ r).1
    · rfl
  split
  · obtain ⟨l1, l2, -⟩ := last_is (X := ⟨X.S, X.vs, gs⟩) I hn o.at_
    obtain ⟨k1, k2⟩ := h.al.write I hg gov o.at_ (lastW X.vs o.at_) l1 l2
    rw [gtx] at k1 k2
    refine ⟨k1, ⟨k2, on _ _ _ ?_⟩, fun e => by omega⟩
    split <;> rfl
  split
  · obtain ⟨k1, k2⟩ := h.al.committed I hg gov
    rw [gtx] at k1 k2
    refine ⟨.inl k1, ⟨.inl k2, on _ _ _ ?_⟩, fun _ => ⟨k1, fun _ => k2⟩⟩
    split <;> rfl
  split
  · have k := h.al.aborted I hg gov
    rw [gtx] at k
    have k0 := (I.aborted hg gov).1
    rw [gtx] at k0
    exact ⟨.inl k0, ⟨.inl k, on _ _ _ rfl⟩, fun e => by omega⟩
  · exact ⟨.inl rfl, h, fun e => by omega⟩
theorem Nr10.do (h : Nr10 X.S) (h1 : o.do_ ≠ 1) (h2 : o.do_ ≠ 2) : (doP c rows X o mo).1 ≠ 100 ∧ Nr10 (doP c rows X o mo).2.S := by
  by_cases hd : o.do_ = 0
  · unfold doP
    rw [if_pos hd]
    exact h.began
  rcases ofW_is X.rs o.tx with ⟨e1, -⟩ | ⟨i, r, e1, hi, htx, hov⟩
  · rw [doP_none hd e1]; exact ⟨show (0 : Int) ≠ 100 by decide, h⟩
  rw [doP_some hd e1 hi]
  unfold doR
  rw [if_neg h1, if_neg h2]
  split
  · exact h.write _ _ _
  split
  · exact h.committed _
  split
  · exact h.aborted _
  · exact ⟨show (0 : Int) ≠ 100 by decide, h⟩
theorem Nr10.new (now : Int) : Nr10 (new10 now) := ⟨rfl, fun t ht => (by cases ht)⟩
theorem Alo.new : Alo ⟨new10 0, [], []⟩ 0 := ⟨.inl rfl, fun r hr => (by cases hr)⟩
end
end Go.Proofs.YtknppiebncdjmaaGreat
