/- Layer 8, plain lists: the order of locks; Held; what is held by whom. -/
import Derived.Test.YtghnafknbgmagaaLkSort
import Derived.Test.YtghnafknbgmagaaLkTake
namespace Go.Proofs.Ytghnafknbgmagaa
set_option maxRecDepth 100000

theorem bl_irrefl8 : ∀ x : List UInt8, Op.bytesLess x x = false
  | [] => rfl
  | a :: x => by simp [Op.bytesLess, bl_irrefl8 x]
theorem bl_trans8 : ∀ x y z : List UInt8, Op.bytesLess x y = true → Op.bytesLess y z = true → Op.bytesLess x z = true
  | _, [], _, h, _ => by cases ‹List UInt8› <;> simp [Op.bytesLess] at h
  | _, _ :: _, [], _, h => by simp [Op.bytesLess] at h
  | [], _ :: _, _ :: _, _, _ => rfl
  | a :: x, b :: y, c :: z, h1, h2 => by
    simp only [Op.bytesLess, Bool.or_eq_true, Bool.and_eq_true, decide_eq_true_eq, beq_iff_eq] at h1 h2 ⊢
    rcases h1 with h1 | ⟨rfl, h1⟩
    · rcases h2 with h2 | ⟨rfl, h2⟩
      · exact .inl (UInt8.lt_trans h1 h2)
      · exact .inl h1
    · rcases h2 with h2 | ⟨rfl, h2⟩
      · exact .inl h2
      · exact .inr ⟨rfl, bl_trans8 x y z h1 h2⟩
theorem bl_tri8 : ∀ x y : List UInt8, Op.bytesLess x y = false → Op.bytesLess y x = false → x = y
  | [], [], _, _ => rfl
  | [], _ :: _, h, _ => by simp [Op.bytesLess] at h
  | _ :: _, [], _, h => by simp [Op.bytesLess] at h
  | a :: x, b :: y, h1, h2 => by
    simp only [Op.bytesLess, Bool.or_eq_false_iff, decide_eq_false_iff_not, Bool.and_eq_false_iff, beq_eq_false_iff_ne] at h1 h2
    have hab : a = b := by
      have h3 := h1.1
      have h4 := h2.1
      rw [UInt8.lt_iff_toNat_lt] at h3 h4
      exact UInt8.toNat_inj.1 (by omega)
    subst hab
    have h3 : Op.bytesLess x y = false := by rcases h1.2 with h | h <;> simp_all
    have h4 : Op.bytesLess y x = false := by rcases h2.2 with h | h <;> simp_all
    rw [bl_tri8 x y h3 h4]
theorem klB_irrefl (a : ByteArray) : klB a a = false := bl_irrefl8 _
theorem klB_trans {a b c : ByteArray} (h1 : klB a b = true) (h2 : klB b c = true) : klB a c = true := bl_trans8 _ _ _ h1 h2
theorem ba_toList_inj8 {a b : ByteArray} (h : a.toList = b.toList) : a = b := by
  rw [ByteArray.toList_eq, ByteArray.toList_eq] at h
  cases a; cases b
  simpa using h
theorem klB_tri {a b : ByteArray} (h1 : klB a b = false) (h2 : klB b a = false) : a = b := ba_toList_inj8 (bl_tri8 _ _ h1 h2)
theorem klB_asymm {a b : ByteArray} (h : klB a b = true) : klB b a = false := by
  cases h2 : klB b a
  · rfl
  · have := klB_trans h h2; rw [klB_irrefl] at this; cases this
theorem klB_lt_le {a b c : ByteArray} (h1 : klB a b = true) (h2 : klB c b = false) : klB a c = true := by
  cases h3 : klB a c
  · rcases hcb : klB b c with _ | _
    · have := klB_tri h2 hcb; subst this; rw [h1] at h3; cases h3
    · rw [klB_trans h1 hcb] at h3; cases h3
  · rfl
theorem klB_le_lt {a b c : ByteArray} (h1 : klB b a = false) (h2 : klB b c = true) : klB a c = true := by
  cases h3 : klB a c
  · rcases hab : klB a b with _ | _
    · have := klB_tri hab h1; subst this; rw [h2] at h3; cases h3
    · rw [klB_trans hab h2] at h3; cases h3
  · rfl
theorem toList_beq8 (a b : ByteArray) : (a.toList == b.toList) = decide (a = b) := by
  by_cases h : a = b
  · subst h; simp
  · simp only [h, decide_false, beq_eq_false_iff_ne, ne_eq]
    exact fun e => h (ba_toList_inj8 e)


theorem lkEq_is (a b : Lk) : lkEq a b = decide (a = b) := by
  obtain ⟨a1, a2⟩ := a
  obtain ⟨b1, b2⟩ := b
  unfold lkEq
  simp only [toList_beq8, Prod.mk.injEq]
  by_cases h1 : a1 = b1 <;> by_cases h2 : a2 = b2 <;> simp [h1, h2]
theorem lessB_is (a b : Lk) : lessB a b = true ↔ klB a.1 b.1 = true ∨ (a.1 = b.1 ∧ klB a.2 b.2 = true) := by
  unfold lessB
  rw [toList_beq8]
  simp
theorem lessB_irr (a : Lk) : lessB a a = false := by
  cases h : lessB a a
  · rfl
  · rcases (lessB_is _ _).1 h with h1 | ⟨-, h1⟩ <;> rw [klB_irrefl] at h1 <;> cases h1
theorem lessB_tr (a b c : Lk) (h1 : lessB a b = true) (h2 : lessB b c = true) : lessB a c = true := by
  rw [lessB_is] at h1 h2 ⊢
  rcases h1 with h1 | ⟨e1, h1⟩ <;> rcases h2 with h2 | ⟨e2, h2⟩
  · exact .inl (klB_trans h1 h2)
  · exact .inl (e2 ▸ h1)
  · exact .inl (e1 ▸ h2)
  · exact .inr ⟨e1.trans e2, klB_trans h1 h2⟩
theorem lessB_tri (a b : Lk) (h1 : lessB a b = false) (h2 : lessB b a = false) : a = b := by
  have n1 : ¬ (klB a.1 b.1 = true ∨ (a.1 = b.1 ∧ klB a.2 b.2 = true)) := fun h => by have := (lessB_is a b).2 h; rw [h1] at this; cases this
  have n2 : ¬ (klB b.1 a.1 = true ∨ (b.1 = a.1 ∧ klB b.2 a.2 = true)) := fun h => by have := (lessB_is b a).2 h; rw [h2] at this; cases this
  have e1 : a.1 = b.1 := by
    refine klB_tri ?_ ?_
    · cases h : klB a.1 b.1
      · rfl
      · exact (n1 (.inl h)).elim
    · cases h : klB b.1 a.1
      · rfl
      · exact (n2 (.inl h)).elim
  refine Prod.ext e1 (klB_tri ?_ ?_)
  · cases h : klB a.2 b.2
    · rfl
    · exact (n1 (.inr ⟨e1, h⟩)).elim
  · cases h : klB b.2 a.2
    · rfl
    · exact (n2 (.inr ⟨e1.symm, h⟩)).elim
theorem lessB_asy (a b : Lk) (h : lessB a b = true) : lessB b a = false := by
  cases h2 : lessB b a
  · rfl
  · have := lessB_tr _ _ _ h h2; rw [lessB_irr] at this; cases this

/-- No lock is held twice. -/
def Once (hs : List Hd) : Prop := (hs.map (·.1)).Nodup
theorem held_is {hs : List Hd} (h : Once hs) (tx : Int) : (heldP hs tx).Pairwise (lessB · · = true) ∧ ∀ y, y ∈ heldP hs tx ↔ (y, tx) ∈ hs := by
  have key : ∀ (l out : List Lk), l.Nodup → (∀ x ∈ l, x ∉ out) → out.Pairwise (lessB · · = true) → (l.foldl insL out).Pairwise (lessB · · = true) ∧ ∀ y, y ∈ l.foldl insL out ↔ y ∈ out ∨ y ∈ l := by
    intro l
    induction l with
    | nil => intro out _ _ h; exact ⟨h, by simp⟩
    | cons x l ih =>
      intro out hn hd h
      obtain ⟨n1, n2⟩ := List.nodup_cons.1 hn
      have i1 : (insL out x).Pairwise (lessB · · = true) := ins_strict (lt := lessB) lessB_tr lessB_tri h fun y hy e => hd x (List.mem_cons_self ..) (e ▸ hy)
      have i2 : ∀ y, y ∈ insL out x ↔ y ∈ out ∨ y = x := fun y => ins_mem out x y _
      obtain ⟨j1, j2⟩ := ih _ n2 (fun y hy hm => by
        rcases (i2 y).1 hm with h1 | h1
        · exact hd y (List.mem_cons_of_mem _ hy) h1
        · subst h1; exact n1 hy) i1
      refine ⟨j1, fun y => ?_⟩
      rw [List.foldl_cons, j2, i2, List.mem_cons, or_assoc]
  have hn : (hisP hs tx).Nodup := by
    unfold hisP
    exact List.Nodup.sublist (List.Sublist.map _ List.filter_sublist) h
  obtain ⟨h1, h2⟩ := key (hisP hs tx) [] hn (by simp) List.Pairwise.nil
  refine ⟨h1, fun y => ?_⟩
  unfold heldP
  rw [h2]
  unfold hisP
  simp only [List.not_mem_nil, false_or, List.mem_map, List.mem_filter, decide_eq_true_eq]
  constructor
  · rintro ⟨⟨l, t⟩, ⟨hm, rfl⟩, rfl⟩; exact hm
  · intro hm; exact ⟨_, ⟨hm, rfl⟩, rfl⟩
/-- A list that rises strictly and has the members is what Held answers. -/
theorem held_unique {hs : List Hd} (h : Once hs) {tx : Int} {m : List Lk} (hm : m.Pairwise (lessB · · = true)) (hy : ∀ y, y ∈ m ↔ (y, tx) ∈ hs) : m = heldP hs tx :=
  strict_ext lessB_irr lessB_asy _ _ hm (held_is h tx).1 fun y => (hy y).trans ((held_is h tx).2 y).symm

theorem holder_none {hs : List Hd} {l : Lk} : holderP hs l = none ↔ ∀ tx, (l, tx) ∉ hs := by
  unfold holderP
  simp only [Option.map_eq_none_iff, List.find?_eq_none, lkEq_is, decide_eq_true_eq]
  exact ⟨fun h tx hm => h _ hm rfl, fun h x hx e => h x.2 (by rw [← e]; exact hx)⟩
theorem holder_some {hs : List Hd} (h : Once hs) {l : Lk} {tx : Int} : holderP hs l = some tx ↔ (l, tx) ∈ hs := by
  constructor
  · unfold holderP
    intro e
    obtain ⟨x, hx, rfl⟩ := Option.map_eq_some_iff.1 e
    have h1 := List.find?_some hx
    rw [lkEq_is] at h1
    have h2 := List.mem_of_find?_eq_some hx
    have h1 : x.1 = l := by simpa using h1
    rw [← h1]; exact h2
  · intro hm
    induction hs with
    | nil => cases hm
    | cons x hs ih =>
      obtain ⟨n1, n2⟩ := List.nodup_cons.1 (show (x.1 :: hs.map (·.1)).Nodup from h)
      unfold holderP
      rcases List.mem_cons.1 hm with e | e
      · subst e
        rw [List.find?_cons_of_pos (by rw [lkEq_is]; simp)]; rfl
      · have hne : x.1 ≠ l := fun e2 => n1 (List.mem_map.2 ⟨_, e, by rw [e2]⟩)
        rw [List.find?_cons_of_neg (by rw [lkEq_is]; simpa using hne)]
        exact ih n2 e
theorem Once.take {most : Int} {hs : List Hd} (h : Once hs) (tx snap last : Int) (l : Lk) : Once (takeP most hs tx snap last l).2 := by
  unfold takeP
  split
  · exact h
  · split
    · split <;> exact h
    · rename_i hn
      split
      · exact h
      · split
        · exact h
        · show ((hs ++ [(l, tx)]).map (·.1)).Nodup
          rw [List.map_append, List.map_cons, List.map_nil]
          refine List.nodup_append.2 ⟨h, by simp, fun a ha b hb => ?_⟩
          rw [List.mem_singleton.1 hb]
          rintro rfl
          obtain ⟨x, hx, e⟩ := List.mem_map.1 ha
          exact holder_none.1 hn x.2 (by rw [← e]; exact hx)
theorem Once.release {hs : List Hd} (h : Once hs) (tx : Int) : Once (releaseP hs tx) := List.Nodup.sublist (List.Sublist.map _ List.filter_sublist) h
theorem Once.nil : Once [] := List.nodup_nil
theorem take_len {most : Int} {hs : List Hd} (tx snap last : Int) (l : Lk) (h : (hs.length : Int) ≤ most) : ((takeP most hs tx snap last l).2.length : Int) ≤ most := by
  unfold takeP
  split
  · exact h
  · split
    · split <;> exact h
    · split
      · exact h
      · split
        · exact h
        · rw [List.length_append]; simp; omega
theorem release_len {most : Int} {hs : List Hd} (tx : Int) (h : (hs.length : Int) ≤ most) : ((releaseP hs tx).length : Int) ≤ most := by
  have := List.length_filter_le (fun h : Hd => !decide (h.2 = tx)) hs
  unfold releaseP
  omega
end Go.Proofs.Ytghnafknbgmagaa
