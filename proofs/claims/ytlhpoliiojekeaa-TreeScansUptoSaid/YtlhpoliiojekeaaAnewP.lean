/- What putP and delP hold, by membership; a list of pairs that rises is told by its members. -/
import Derived.Test.YtlhpoliiojekeaaFilled
import Derived.Test.YtlhpoliiojekeaaNextT
namespace Go.Proofs.Ytlhpoliiojekeaa
set_option maxRecDepth 100000
open Go.RowKit

theorem mid_mem {ps : List Pr} {k : ByteArray} {p : Pr} (hp : p ∈ ps) (hk : p.1 ≠ k) : p ∈ ps.take (rk (keys ps) k) ∨ p ∈ ps.drop (rk (keys ps) k + if has (keys ps) k then 1 else 0) := by
  obtain ⟨j, hj, rfl⟩ := List.mem_iff_getElem.1 hp
  have hb := rk_has_le ps k
  rcases Nat.lt_or_ge j (rk (keys ps) k) with h1 | h1
  · left
    exact List.mem_iff_getElem.2 ⟨j, by rw [List.length_take]; omega, by rw [List.getElem_take]⟩
  · right
    rcases Nat.lt_or_ge j (rk (keys ps) k + if has (keys ps) k then 1 else 0) with h2 | h2
    · exfalso
      have hh : has (keys ps) k = true := by
        cases hc : has (keys ps) k
        · rw [hc] at h2; simp at h2; omega
        · rfl
      rw [hh, if_pos rfl] at h2
      have hj2 : j = rk (keys ps) k := by omega
      have := has_at hh
      rw [← hj2, keys_get, List.getElem?_eq_getElem hj] at this
      simp at this
      exact hk this
    · exact List.mem_iff_getElem.2 ⟨j - (rk (keys ps) k + if has (keys ps) k then 1 else 0), by rw [List.length_drop]; omega, by rw [List.getElem_drop]; congr 1; omega⟩
theorem mem_putP {ps : List Pr} (hr : Rises (keys ps)) (k : ByteArray) (z : Int) (p : Pr) : p ∈ putP ps k z ↔ p = (k, z) ∨ (p ∈ ps ∧ p.1 ≠ k) := by
  have hu := take_under (ps := ps) k
  have ha := drop_above hr k
  unfold putP
  rw [List.mem_append, List.mem_cons]
  constructor
  · rintro (h | h | h)
    · exact .inr ⟨List.mem_of_mem_take h, fun e => by have := hu p h; rw [e, kl_irrefl] at this; cases this⟩
    · exact .inl h
    · exact .inr ⟨List.mem_of_mem_drop h, fun e => by have := ha p h; rw [e, kl_irrefl] at this; cases this⟩
  · rintro (h | ⟨h1, h2⟩)
    · exact .inr (.inl h)
    · rcases mid_mem h1 h2 with h | h
      · exact .inl h
      · exact .inr (.inr h)
theorem mem_delP {ps : List Pr} (hr : Rises (keys ps)) (k : ByteArray) (p : Pr) : p ∈ delP ps k ↔ p ∈ ps ∧ p.1 ≠ k := by
  have hu := take_under (ps := ps) k
  have ha := drop_above hr k
  unfold delP
  rw [List.mem_append]
  constructor
  · rintro (h | h)
    · exact ⟨List.mem_of_mem_take h, fun e => by have := hu p h; rw [e, kl_irrefl] at this; cases this⟩
    · exact ⟨List.mem_of_mem_drop h, fun e => by have := ha p h; rw [e, kl_irrefl] at this; cases this⟩
  · rintro ⟨h1, h2⟩
    exact mid_mem h1 h2
theorem rises_ext : ∀ (a b : List Pr), Rises (keys a) → Rises (keys b) → (∀ p, p ∈ a ↔ p ∈ b) → a = b
  | [], [], _, _, _ => rfl
  | [], q :: b, _, _, h => by have := (h q).2 (List.mem_cons_self ..); simp at this
  | p :: a, [], _, _, h => by have := (h p).1 (List.mem_cons_self ..); simp at this
  | p :: a, q :: b, ha, hb, h => by
    have ha' := List.pairwise_cons.1 ((rises_iff _).1 ha)
    have hb' := List.pairwise_cons.1 ((rises_iff _).1 hb)
    have e : p = q := by
      rcases List.mem_cons.1 ((h p).1 (List.mem_cons_self ..)) with h1 | h1
      · exact h1
      · rcases List.mem_cons.1 ((h q).2 (List.mem_cons_self ..)) with h2 | h2
        · exact h2.symm
        · have q1 := hb'.1 p h1
          have q2 := ha'.1 q h2
          have := kl_asymm q1
          rw [q2] at this; cases this
    subst e
    have key : ∀ (l : List Pr), (∀ r ∈ l, kl p.1 r.1 = true) → p ∉ l := fun l hl hp => by have := hl p hp; rw [kl_irrefl] at this; cases this
    rw [rises_ext a b ((rises_iff a).2 ha'.2) ((rises_iff b).2 hb'.2) fun r => ⟨fun hr => ?_, fun hr => ?_⟩]
    · rcases List.mem_cons.1 ((h r).1 (List.mem_cons_of_mem _ hr)) with e | h1
      · exact absurd (e ▸ hr) (key a ha'.1)
      · exact h1
    · rcases List.mem_cons.1 ((h r).2 (List.mem_cons_of_mem _ hr)) with e | h1
      · exact absurd (e ▸ hr) (key b hb'.1)
      · exact h1
theorem mem_key {ps : List Pr} (hr : Rises (keys ps)) {p q : Pr} (hp : p ∈ ps) (hq : q ∈ ps) (h : p.1 = q.1) : p = q := by
  obtain ⟨i, hi, rfl⟩ := List.mem_iff_getElem.1 hp
  obtain ⟨j, hj, rfl⟩ := List.mem_iff_getElem.1 hq
  have h1 : (keys ps)[i]? = some ps[i].1 := by rw [keys_get, List.getElem?_eq_getElem hi]; rfl
  have h2 : (keys ps)[j]? = some ps[j].1 := by rw [keys_get, List.getElem?_eq_getElem hj]; rfl
  rcases Nat.lt_trichotomy i j with h3 | h3 | h3
  · have := hr.at_ h3 h1 h2; rw [h, kl_irrefl] at this; cases this
  · subst h3; rfl
  · have := hr.at_ h3 h2 h1; rw [h, kl_irrefl] at this; cases this
/-- The number that is found stands beside the key. -/
theorem getP_mem {ps : List Pr} {k : ByteArray} (h : has (keys ps) k = true) : (k, (getP ps k).1) ∈ ps := by
  have h1 := has_at h
  rw [keys_get] at h1
  obtain ⟨p, hp, e⟩ := Option.map_eq_some_iff.1 h1
  unfold getP
  rw [hp]
  simp only [e, if_true]
  rw [← e]
  exact List.mem_of_getElem? hp
theorem has_iff {ps : List Pr} (hr : Rises (keys ps)) (k : ByteArray) : has (keys ps) k = true ↔ ∃ z, (k, z) ∈ ps := by
  constructor
  · exact fun h => ⟨_, getP_mem h⟩
  · rintro ⟨z, h⟩
    cases hc : has (keys ps) k
    · exfalso
      obtain ⟨i, hi, e⟩ := List.mem_iff_getElem.1 h
      have h1 : (keys ps)[i]? = some k := by rw [keys_get, List.getElem?_eq_getElem hi, e]; rfl
      rcases Nat.lt_or_ge i (rk (keys ps) k) with h2 | h2
      · have := rk_below _ _ _ _ h2 h1; rw [kl_irrefl] at this; cases this
      · obtain ⟨a, ha⟩ : ∃ a, (keys ps)[rk (keys ps) k]? = some a := ⟨_, List.getElem?_eq_getElem (by have := (List.getElem?_eq_some_iff.1 h1).1; omega)⟩
        have h3 := has_not hc ha
        rcases Nat.lt_or_eq_of_le h2 with h4 | h4
        · have := kl_trans h3 (hr.at_ h4 ha h1); rw [kl_irrefl] at this; cases this
        · rw [h4, h1] at ha; cases ha; rw [kl_irrefl] at h3; cases h3
    · rfl
theorem fillN_rises (ks : List ByteArray) : ∀ j, Rises (keys (fillN ks j))
  | 0 => List.Pairwise.nil
  | j + 1 => by
    unfold fillN
    split
    · exact putP_rises (fillN_rises ks j) _ _
    · exact fillN_rises ks j
theorem fillN_keys (ks : List ByteArray) (k : ByteArray) : ∀ j, (∃ z, (k, z) ∈ fillN ks j) ↔ k ∈ ks.take j
  | 0 => by simp [fillN]
  | j + 1 => by
    have ih := fillN_keys ks k j
    rw [List.take_add_one]
    unfold fillN
    cases hk : ks[j]? with
    | none => simpa using ih
    | some a =>
      simp only [Option.toList_some, List.mem_append, List.mem_singleton]
      rw [← ih]
      constructor
      · rintro ⟨z, h⟩
        rcases (mem_putP (fillN_rises ks j) a (j : Int) _).1 h with h | ⟨h, _⟩
        · exact .inr (by injection h)
        · exact .inl ⟨z, h⟩
      · rintro (⟨z, h⟩ | rfl)
        · by_cases e : k = a
          · exact ⟨(j : Int), (mem_putP (fillN_rises ks j) a (j : Int) _).2 (.inl (by rw [e]))⟩
          · exact ⟨z, (mem_putP (fillN_rises ks j) a (j : Int) _).2 (.inr ⟨h, e⟩)⟩
        · exact ⟨(j : Int), (mem_putP (fillN_rises ks j) k (j : Int) _).2 (.inl rfl)⟩
/-- While keys are put in from behind. -/
structure An1 (P Q0 : List Pr) (ks : List ByteArray) (i : Nat) (Q : List Pr) : Prop where
  rise : Rises (keys Q)
  mem : ∀ p, p ∈ Q ↔ (p ∈ P ∧ p.1 ∈ ks.drop i) ∨ (p ∈ Q0 ∧ p.1 ∉ ks.drop i)
theorem An1.step {P Q0 : List Pr} {ks : List ByteArray} {i : Nat} {Q : List Pr} (hP : Rises (keys P)) {k : ByteArray} (hk : ks[i]? = some k) (hh : has (keys P) k = true) (h : An1 P Q0 ks (i + 1) Q) : An1 P Q0 ks i (putP Q k (getP P k).1) := by
  refine ⟨putP_rises h.rise _ _, fun p => ?_⟩
  have hd : ks.drop i = k :: ks.drop (i + 1) := by
    obtain ⟨h1, rfl⟩ := List.getElem?_eq_some_iff.1 hk
    exact List.drop_eq_getElem_cons h1
  rw [mem_putP h.rise, h.mem, hd]
  have hg := getP_mem hh
  constructor
  · rintro (rfl | ⟨(⟨h1, h2⟩ | ⟨h1, h2⟩), h3⟩)
    · exact .inl ⟨hg, List.mem_cons_self ..⟩
    · exact .inl ⟨h1, List.mem_cons_of_mem _ h2⟩
    · exact .inr ⟨h1, by simp [h3, h2]⟩
  · rintro (⟨h1, h2⟩ | ⟨h1, h2⟩)
    · by_cases e : p.1 = k
      · exact .inl (mem_key hP h1 hg e)
      · rcases List.mem_cons.1 h2 with h2 | h2
        · exact absurd h2 e
        · exact .inr ⟨.inl ⟨h1, h2⟩, e⟩
    · rw [List.mem_cons, not_or] at h2
      exact .inr ⟨.inr ⟨h1, h2.2⟩, h2.1⟩
/-- While what is gone is taken out. -/
structure An2 (P Q0 : List Pr) (gs : List ByteArray) (j : Nat) (Q : List Pr) : Prop where
  rise : Rises (keys Q)
  mem : ∀ p, p ∈ Q ↔ p ∈ P ∨ (p ∈ Q0 ∧ has (keys P) p.1 = false ∧ p.1 ∉ gs.take j)
theorem An1.done {P Q0 : List Pr} {ks gs : List ByteArray} {Q : List Pr} (hP : Rises (keys P)) (hk : ∀ k, (∃ z, (k, z) ∈ P) ↔ k ∈ ks) (h : An1 P Q0 ks 0 Q) : An2 P Q0 gs 0 Q := by
  refine ⟨h.rise, fun p => ?_⟩
  have h1 : has (keys P) p.1 = false ↔ p.1 ∉ ks := by
    rw [← hk, ← has_iff hP]; simp
  rw [h.mem, List.drop_zero, List.take_zero, h1]
  simp only [List.not_mem_nil, not_false_eq_true, and_true]
  constructor
  · rintro (⟨h2, -⟩ | h2)
    · exact .inl h2
    · exact .inr h2
  · rintro (h2 | h2)
    · exact .inl ⟨h2, (hk p.1).1 ⟨p.2, h2⟩⟩
    · exact .inr h2
theorem An2.keep {P Q0 : List Pr} {gs : List ByteArray} {j : Nat} {Q : List Pr} {k : ByteArray} (hk : gs[j]? = some k) (hh : has (keys P) k = true) (h : An2 P Q0 gs j Q) : An2 P Q0 gs (j + 1) Q := by
  refine ⟨h.rise, fun p => ?_⟩
  rw [h.mem, List.take_add_one, hk, Option.toList_some, List.mem_append, List.mem_singleton]
  constructor
  · rintro (h1 | ⟨h1, h2, h3⟩)
    · exact .inl h1
    · exact .inr ⟨h1, h2, fun e => by rcases e with e | e; exact h3 e; rw [e, hh] at h2; cases h2⟩
  · rintro (h1 | ⟨h1, h2, h3⟩)
    · exact .inl h1
    · exact .inr ⟨h1, h2, fun e => h3 (.inl e)⟩
theorem An2.step {P Q0 : List Pr} {gs : List ByteArray} {j : Nat} {Q : List Pr} {k : ByteArray} (hP : Rises (keys P)) (hk : gs[j]? = some k) (hh : has (keys P) k = false) (h : An2 P Q0 gs j Q) : An2 P Q0 gs (j + 1) (delP Q k) := by
  refine ⟨delP_rises h.rise _, fun p => ?_⟩
  rw [mem_delP h.rise, h.mem, List.take_add_one, hk, Option.toList_some, List.mem_append, List.mem_singleton]
  constructor
  · rintro ⟨(h1 | ⟨h1, h2, h3⟩), h4⟩
    · exact .inl h1
    · exact .inr ⟨h1, h2, fun e => by rcases e with e | e; exact h3 e; exact h4 e⟩
  · rintro (h1 | ⟨h1, h2, h3⟩)
    · refine ⟨.inl h1, fun e => ?_⟩
      have := (has_iff hP p.1).2 ⟨p.2, h1⟩
      rw [e, hh] at this; cases this
    · exact ⟨.inr ⟨h1, h2, fun e => h3 (.inl e)⟩, fun e => h3 (.inr e)⟩
theorem An2.done {P Q0 : List Pr} {gs : List ByteArray} {j : Nat} {Q : List Pr} (hP : Rises (keys P)) (hg : ∀ k, (∃ z, (k, z) ∈ Q0) → k ∈ gs.take j) (h : An2 P Q0 gs j Q) : Q = P := by
  refine rises_ext Q P h.rise hP fun p => ?_
  rw [h.mem]
  constructor
  · rintro (h1 | ⟨h1, -, h3⟩)
    · exact h1
    · exact absurd (hg p.1 ⟨p.2, h1⟩) h3
  · exact .inl
end Go.Proofs.Ytlhpoliiojekeaa
