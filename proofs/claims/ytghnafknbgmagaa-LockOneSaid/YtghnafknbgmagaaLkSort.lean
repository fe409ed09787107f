/- Layer 8, plain lists: what rises strictly is told by its members; Rise and Held rise. -/
import Derived.Test.YtghnafknbgmagaaLkHolders
import Derived.Test.YtghnafknbgmagaaLkHeld
namespace Go.Proofs.Ytghnafknbgmagaa
set_option maxRecDepth 100000

section
variable {α : Type} {lt : α → α → Bool}
theorem strict_ext (irr : ∀ a, lt a a = false) (asy : ∀ a b, lt a b = true → lt b a = false) : ∀ l m : List α, l.Pairwise (lt · · = true) → m.Pairwise (lt · · = true) → (∀ x, x ∈ l ↔ x ∈ m) → l = m
  | [], [], _, _, _ => rfl
  | [], b :: m, _, _, h => absurd ((h b).2 (List.mem_cons_self ..)) (by simp)
  | a :: l, [], _, _, h => absurd ((h a).1 (List.mem_cons_self ..)) (by simp)
  | a :: l, b :: m, hl, hm, h => by
    obtain ⟨hl1, hl2⟩ := List.pairwise_cons.1 hl
    obtain ⟨hm1, hm2⟩ := List.pairwise_cons.1 hm
    have hab : a = b := by
      rcases List.mem_cons.1 ((h a).1 (List.mem_cons_self ..)) with e | e
      · exact e
      · rcases List.mem_cons.1 ((h b).2 (List.mem_cons_self ..)) with e2 | e2
        · exact e2.symm
        · have h1 := hm1 a e
          have h2 := hl1 b e2
          rw [asy _ _ h1] at h2; cases h2
    subst hab
    congr 1
    refine strict_ext irr asy l m hl2 hm2 fun x => ⟨fun hx => ?_, fun hx => ?_⟩
    · rcases List.mem_cons.1 ((h x).1 (List.mem_cons_of_mem _ hx)) with e | e
      · subst e; have := hl1 x hx; rw [irr] at this; cases this
      · exact e
    · rcases List.mem_cons.1 ((h x).2 (List.mem_cons_of_mem _ hx)) with e | e
      · subst e; have := hm1 x hx; rw [irr] at this; cases this
      · exact e
/-- What stands ahead of the place is below, what stands behind it is above. -/
theorem place_split (tr : ∀ a b c, lt a b = true → lt b c = true → lt a c = true) (tri : ∀ a b, lt a b = false → lt b a = false → a = b) :
    ∀ (l : List α) (x : α), l.Pairwise (lt · · = true) → (∀ y ∈ l, y ≠ x) → (∀ y ∈ l.take (l.takeWhile (lt · x)).length, lt y x = true) ∧ ∀ y ∈ l.drop (l.takeWhile (lt · x)).length, lt x y = true
  | [], x, _, _ => by simp
  | b :: l, x, h, hx => by
    obtain ⟨h1, h2⟩ := List.pairwise_cons.1 h
    cases hb : lt b x
    · rw [List.takeWhile_cons_of_neg (p := fun y => lt y x) (by simp [hb])]
      simp only [List.length_nil, List.take_zero, List.drop_zero]
      have hxb : lt x b = true := by
        cases hxb : lt x b
        · exact absurd (tri _ _ hb hxb) (hx b (List.mem_cons_self ..))
        · rfl
      refine ⟨by simp, fun y hy => ?_⟩
      rcases List.mem_cons.1 hy with e | e
      · rw [e]; exact hxb
      · exact tr _ _ _ hxb (h1 y e)
    · rw [List.takeWhile_cons_of_pos (p := fun y => lt y x) hb]
      simp only [List.length_cons, List.take_succ_cons, List.drop_succ_cons]
      obtain ⟨i1, i2⟩ := place_split tr tri l x h2 fun y hy => hx y (List.mem_cons_of_mem _ hy)
      refine ⟨fun y hy => ?_, i2⟩
      rcases List.mem_cons.1 hy with e | e
      · rw [e]; exact hb
      · exact i1 y e
theorem ins_strict (tr : ∀ a b c, lt a b = true → lt b c = true → lt a c = true) (tri : ∀ a b, lt a b = false → lt b a = false → a = b) {l : List α} {x : α} (h : l.Pairwise (lt · · = true)) (hx : ∀ y ∈ l, y ≠ x) :
    (l.take (l.takeWhile (lt · x)).length ++ [x] ++ l.drop (l.takeWhile (lt · x)).length).Pairwise (lt · · = true) := by
  obtain ⟨h1, h2⟩ := place_split tr tri l x h hx
  have h3 := h
  rw [← List.take_append_drop (l.takeWhile (lt · x)).length l] at h3
  obtain ⟨p1, p2, p3⟩ := List.pairwise_append.1 h3
  refine List.pairwise_append.2 ⟨List.pairwise_append.2 ⟨p1, List.pairwise_singleton .., fun a ha b hb => ?_⟩, p2, fun a ha b hb => ?_⟩
  · rw [List.mem_singleton.1 hb]; exact h1 a ha
  · rcases List.mem_append.1 ha with e | e
    · exact p3 a e b hb
    · rw [List.mem_singleton.1 e]; exact h2 b hb
theorem ins_mem (l : List α) (x y : α) (k : Nat) : y ∈ l.take k ++ [x] ++ l.drop k ↔ y ∈ l ∨ y = x := by
  conv => rhs; rw [← List.take_append_drop k l]
  simp only [List.mem_append, List.mem_singleton]
  constructor
  · rintro ((h | h) | h)
    · exact .inl (.inl h)
    · exact .inr h
    · exact .inl (.inr h)
  · rintro ((h | h) | h)
    · exact .inl (.inl h)
    · exact .inr h
    · exact .inl (.inr h)
end

/-- Numbers rise. -/
def ltN (a b : Int) : Bool := decide (a < b)
theorem ltN_tr (a b c : Int) (h1 : ltN a b = true) (h2 : ltN b c = true) : ltN a c = true := by unfold ltN at *; simp at *; omega
theorem ltN_tri (a b : Int) (h1 : ltN a b = false) (h2 : ltN b a = false) : a = b := by unfold ltN at *; simp at *; omega
theorem ltN_irr (a : Int) : ltN a a = false := by simp [ltN]
theorem ltN_asy (a b : Int) (h : ltN a b = true) : ltN b a = false := by unfold ltN at *; simp at *; omega
theorem insN_is {l : List Int} {x : Int} (h : l.Pairwise (ltN · · = true)) : (insN l x).Pairwise (ltN · · = true) ∧ ∀ y, y ∈ insN l x ↔ y ∈ l ∨ y = x := by
  unfold insN
  split
  · rename_i hx
    refine ⟨h, fun y => ⟨.inl, fun hy => ?_⟩⟩
    rcases hy with hy | rfl
    · exact hy
    · exact List.mem_of_getElem? hx
  · rename_i hx
    have hne : ∀ y ∈ l, y ≠ x := by
      rintro y hy rfl
      obtain ⟨k, hk⟩ := List.mem_iff_getElem?.1 hy
      have hkl := (List.getElem?_eq_some_iff.1 hk).1
      rcases Nat.lt_trichotomy k (plN l y) with h1 | h1 | h1
      · have := plN_below l y k y h1 hk; omega
      · rw [h1] at hk; exact hx hk
      · have hp : plN l y < l.length := by omega
        obtain ⟨z, hz⟩ : ∃ z, l[plN l y]? = some z := ⟨_, List.getElem?_eq_getElem hp⟩
        have h2 := plN_at l y z hz
        have h3 : ltN z y = true := by
          have h4 := List.pairwise_iff_getElem.1 h _ _ hp hkl h1
          rw [List.getElem?_eq_getElem hp] at hz
          rw [List.getElem?_eq_getElem hkl] at hk
          cases hz; cases hk; exact h4
        unfold ltN at h3
        exact h2 (by simpa using h3)
    exact ⟨ins_strict (lt := ltN) ltN_tr ltN_tri h hne, fun y => ins_mem l x y _⟩
theorem rise_is (l : List Int) : (riseP l).Pairwise (ltN · · = true) ∧ ∀ y, y ∈ riseP l ↔ y ∈ l := by
  have key : ∀ (l out : List Int), out.Pairwise (ltN · · = true) → (l.foldl insN out).Pairwise (ltN · · = true) ∧ ∀ y, y ∈ l.foldl insN out ↔ y ∈ out ∨ y ∈ l := by
    intro l
    induction l with
    | nil => intro out h; exact ⟨h, by simp⟩
    | cons x l ih =>
      intro out h
      obtain ⟨i1, i2⟩ := insN_is (x := x) h
      obtain ⟨j1, j2⟩ := ih _ i1
      refine ⟨j1, fun y => ?_⟩
      rw [List.foldl_cons, j2, i2, List.mem_cons, or_assoc]
  obtain ⟨h1, h2⟩ := key l [] List.Pairwise.nil
  exact ⟨h1, fun y => by unfold riseP; rw [h2]; simp⟩
/-- A list that rises strictly and has the members is what Rise answers. -/
theorem rise_unique {l m : List Int} (h : m.Pairwise (ltN · · = true)) (hm : ∀ y, y ∈ m ↔ y ∈ l) : m = riseP l :=
  strict_ext ltN_irr ltN_asy _ _ h (rise_is l).1 fun y => (hm y).trans ((rise_is l).2 y).symm
end Go.Proofs.Ytghnafknbgmagaa
