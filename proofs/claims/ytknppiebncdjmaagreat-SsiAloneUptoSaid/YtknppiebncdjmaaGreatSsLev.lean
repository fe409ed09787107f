/- Layer 10, plain: what is refused is under way no more, and has changed no other one's flags. -/
import Derived.Test.YtknppiebncdjmaaGreatJBL
import Derived.Test.YtknppiebncdjmaaGreatJAK
set_option linter.unusedVariables false
namespace Go.Proofs.YtknppiebncdjmaaGreat
set_option maxRecDepth 100000

section
variable {c : Cp10} {rows : List Lk} {X Y : Pl10} {o : OpX} {mo now : Int}
theorem Inv10.others (I : Inv10 c X.S X.vs X.rs now) {i k : Nat} {r x : Run10} (hi : X.rs[i]? = some r) (hov : r.over = false) (hk : X.rs[k]? = some x) (hxo : x.over = false) (hne : k ≠ i) {S' : St10} (hS : ∀ k2 t, underP X.S.list r.tx = some k2 → X.S.list[k2]? = some t → ∃ H1 L1, S' = abortP { X.S with H := H1, L := L1 } k2) :
    of10 S' x.tx = of10 X.S x.tx := by
  obtain ⟨k2, t, hu, hk2, ht, -, -⟩ := I.under hi hov
  obtain ⟨H1, L1, rfl⟩ := hS k2 t hu hk2
  obtain ⟨u, hu2, eu, eu0, -⟩ := I.of_alive hk hxo
  rw [← eu]
  have hxt := I.tx k x hk
  exact abort_same I.pos I.nd hk2 hu2 (by rw [eu, hxt, ht]; intro e; exact hne (num_inj e)) eu0
structure LevIs (X X' : Pl10) (er : Int) (tx : Int) (i : Nat) : Prop where
  me : (of10 X'.S tx).2.2 = 101 ↔ er ≠ 0
  len : X'.rs.length = X.rs.length
  oth : ∀ (k : Nat) x, k ≠ i → X'.rs[k]? = some x → x.over = false → X.rs[k]? = some x ∧ (of10 X'.S x.tx).2.2 = 0 ∧ (er ≠ 0 → (of10 X'.S x.tx).2.1 = (of10 X.S x.tx).2.1)
theorem LevIs.mk' {X' : Pl10} {er : Int} {i : Nat} {r r' : Run10} (I : Inv10 c X.S X.vs X.rs now) (I' : Inv10 c X'.S X'.vs X'.rs (now + 1)) (hi : X.rs[i]? = some r) (hov : r.over = false) (hrs : X'.rs = X.rs.set i r') (htx : r'.tx = r.tx) (h0 : er = 0 → r'.over = false) (h1 : er ≠ 0 → r'.over = true)
    (hS : er ≠ 0 → ∀ k2 t, underP X.S.list r.tx = some k2 → X.S.list[k2]? = some t → ∃ H1 L1, X'.S = abortP { X.S with H := H1, L := L1 } k2) : LevIs X X' er r.tx i := by
  have hi' : X'.rs[i]? = some r' := by rw [hrs]; exact set_self hi
  refine ⟨?_, by rw [hrs, List.length_set], fun k x hne hk hxo => ?_⟩
  · rw [← htx]
    constructor
    · intro e he
      obtain ⟨u, -, -, -, e2⟩ := I'.of_alive hi' (h0 he)
      rw [e2] at e
      exact absurd (show (0 : Int) = 101 from e) (by decide)
    · intro he
      rw [I'.of_over hi' (h1 he)]
  · have hk0 : X.rs[k]? = some x := by rw [hrs, set_other hne] at hk; exact hk
    refine ⟨hk0, ?_, fun he => ?_⟩
    · obtain ⟨u, -, -, -, e2⟩ := I'.of_alive hk hxo
      rw [e2]
    · rw [I.others hi hov hk0 hxo hne (hS he)]
theorem leave_is (I : Inv10 c X.S X.vs X.rs now) (h0 : 0 ≤ now) (hn : now ≤ 4611686018427387904) (hd : 1 ≤ o.do_ ∧ o.do_ ≤ 3) {i : Nat} {r : Run10} (hof : ofW X.rs o.tx = (i : Int)) (hi : X.rs[i]? = some r) (htx : r.tx = o.tx) (hov : r.over = false) :
    LevIs X (doP c rows X o now).2 (doP c rows X o now).1 o.tx i := by
  have I' := Inv10.do (rows := rows) (o := o) I h0 hn
  rw [doP_some (by omega) hof hi] at I' ⊢
  rw [← htx]
  obtain ⟨l1, -, -⟩ := last_is I hn o.at_
  unfold doR at I' ⊢
  rcases (show o.do_ = 1 ∨ o.do_ = 2 ∨ o.do_ = 3 by omega) with hk | hk | hk
  · rw [if_pos hk] at I' ⊢
    refine LevIs.mk' I I' hi hov rfl ?_ (fun e => ?_) (fun e => ?_) fun e k2 t hu hk2 => ?_
    · split
      · unfold seesP; split <;> rfl
      · rfl
    · simp only at e; rw [if_pos e]; unfold seesP; split <;> exact hov
    · simp only at e; rw [if_neg e]; rfl
    · rw [htx] at hu; exact read_err hu e
  · rw [if_neg (by omega), if_pos hk] at I' ⊢
    refine LevIs.mk' I I' hi hov rfl ?_ (fun e => ?_) (fun e => ?_) fun e k2 t hu hk2 => ?_
    · split
      · exact (sees_fields X.vs _ r).1
      · rfl
    · simp only at e; rw [if_pos e]; exact (sees_fields X.vs _ r).2.2.2.2.2.1.trans hov
    · simp only at e; rw [if_neg e]; rfl
    · rw [htx] at hu; exact scan_err hu e
  · rw [if_neg (by omega), if_neg (by omega), if_pos hk] at I' ⊢
    refine LevIs.mk' I I' hi hov rfl ?_ (fun e => ?_) (fun e => ?_) fun e k2 t hu hk2 => ?_
    · split <;> rfl
    · simp only at e; rw [if_pos e]; exact hov
    · simp only at e; rw [if_neg e]; rfl
    · rw [htx] at hu; exact write_err hu l1 e
end
end Go.Proofs.YtknppiebncdjmaaGreat
