/- Layer 9, plain lists: what SireadKeeps and SireadLean ask of notes. -/
import Derived.Test.YtcpifanhmkblmaaSiAsks
namespace Go.Proofs.Ytcpifanhmkblmaa
set_option maxRecDepth 100000
set_option maxRecDepth 100000
open Go.RowKit

theorem has_low {x : Rd} (h : mayP x = true) : hasP x x.tb x.lo = true := by
  unfold hasP
  unfold mayP at h
  simp only [beq_self_eq_true, Bool.true_and]
  by_cases h1 : x.kd = 1
  · simp [h1]
  · rw [if_neg h1] at h ⊢
    by_cases h2 : x.kd = 2
    · rw [if_pos h2] at h ⊢
      rw [klB_irrefl]; simpa using h
    · rw [if_neg h2]
theorem inner_has {x : Rd} (h : mayP x = true) (k : ByteArray) : ∀ y ∈ innerP x k, hasP x x.tb y = true := by
  intro y hy
  have hl := has_low h
  unfold innerP at hy
  by_cases h1 : x.kd = 1
  · rw [if_pos h1] at hy
    rw [List.mem_singleton.1 hy]; exact hl
  · rw [if_neg h1] at hy
    by_cases h2 : x.kd = 2
    · rw [if_pos h2] at hy
      split at hy
      · rename_i hc
        rcases List.mem_cons.1 hy with rfl | hy
        · exact hl
        · rw [List.mem_singleton.1 hy]
          unfold hasP
          rw [if_neg h1, if_pos h2]
          simp only [beq_self_eq_true, Bool.true_and]
          exact hc
      · rw [List.mem_singleton.1 hy]; exact hl
    · unfold hasP
      rw [if_neg h1, if_neg h2]; simp
theorem inner_len (x : Rd) (k : ByteArray) : (innerP x k).length ≤ 2 := by
  unfold innerP
  split
  · simp
  · split
    · split <;> simp
    · simp
theorem inner_sz {x : Rd} {k : ByteArray} (h : x.lo.size ≤ 140737488351232) (hk : k.size ≤ 140737488351232) : ∀ y ∈ innerP x k, y.size ≤ 140737488351232 := by
  intro y hy
  unfold innerP at hy
  split at hy
  · rw [List.mem_singleton.1 hy]; exact h
  · split at hy
    · split at hy
      · rcases List.mem_cons.1 hy with rfl | hy
        · exact h
        · rw [List.mem_singleton.1 hy]; exact hk
      · rw [List.mem_singleton.1 hy]; exact h
    · rcases List.mem_cons.1 hy with rfl | hy
      · exact hk
      · rw [List.mem_singleton.1 hy]; exact Nat.zero_le _
/-- The operations that count, and the notes: each of the first is held, each of the second is somebody's. -/
structure Kept (K : List OpS) (L : List Nt) : Prop where
  is : ∀ o ∈ K, OpSIs o ∧ 1 ≤ o.tx ∧ mayP o.x = true
  has : ∀ o ∈ K, ∀ tb k, hasP o.x tb k = true → ∃ m ∈ L, m.1 = o.tx ∧ hasP m.2 tb k = true
  of : ∀ m ∈ L, ∃ o ∈ K, o.tx = m.1
theorem Kept.nil : Kept [] [] := ⟨by simp, by simp, by simp⟩
theorem Kept.note {most : Nat} {K : List OpS} {L : List Nt} (h : Kept K L) (hi : Inv9 most L) (o : OpS) (ho : OpSIs o) :
    Kept (if (noteP most L o.tx o.x).1 = 0 then K ++ [o] else K) (noteP most L o.tx o.x).2 := by
  obtain ⟨-, h2, h3, h4⟩ := note_keeps hi o.tx o.x
  by_cases e : (noteP most L o.tx o.x).1 = 0
  · rw [if_pos e]
    obtain ⟨h5, h6, h7⟩ := h4 e
    refine ⟨fun p hp => ?_, fun p hp tb k hk => ?_, fun m hm => ?_⟩
    · rcases List.mem_append.1 hp with hp | hp
      · exact h.is p hp
      · rw [List.mem_singleton.1 hp]; exact ⟨ho, h5, h6⟩
    · rcases List.mem_append.1 hp with hp | hp
      · obtain ⟨m, hm, e1, e2⟩ := h.has p hp tb k hk
        obtain ⟨m2, hm2, e3, e4⟩ := h2 m hm tb k e2
        exact ⟨m2, hm2, e3.trans e1, e4⟩
      · rw [List.mem_singleton.1 hp] at hk ⊢
        exact h7 tb k hk
    · rcases h3 m hm with ⟨e1, -⟩ | ⟨n, hn, e1⟩
      · exact ⟨o, by simp, e1.symm⟩
      · obtain ⟨p, hp, e2⟩ := h.of n hn
        exact ⟨p, List.mem_append.2 (.inl hp), e2.trans e1⟩
  · rw [if_neg e]
    refine ⟨h.is, fun p hp tb k hk => ?_, fun m hm => ?_⟩
    · obtain ⟨m, hm, e1, e2⟩ := h.has p hp tb k hk
      obtain ⟨m2, hm2, e3, e4⟩ := h2 m hm tb k e2
      exact ⟨m2, hm2, e3.trans e1, e4⟩
    · rcases h3 m hm with ⟨-, e1⟩ | ⟨n, hn, e1⟩
      · exact absurd e1 e
      · obtain ⟨p, hp, e2⟩ := h.of n hn
        exact ⟨p, hp, e2.trans e1⟩
theorem Kept.drop {K : List OpS} {L : List Nt} (h : Kept K L) (t : Int) : Kept (K.filter (notTx t)) (if t < 1 then L else dropP L t) := by
  by_cases ht : t < 1
  · rw [if_pos ht]
    have : K.filter (notTx t) = K := List.filter_eq_self.2 fun o ho => by
      have := (h.is o ho).2.1
      simp only [notTx, Bool.not_eq_true', decide_eq_false_iff_not]
      omega
    rw [this]; exact h
  · rw [if_neg ht]
    refine ⟨fun o ho => h.is o (List.mem_filter.1 ho).1, fun o ho tb k hk => ?_, fun m hm => ?_⟩
    · obtain ⟨h1, h2⟩ := List.mem_filter.1 ho
      obtain ⟨m, hm, e1, e2⟩ := h.has o h1 tb k hk
      refine ⟨m, List.mem_filter.2 ⟨hm, ?_⟩, e1, e2⟩
      rw [e1]; exact h2
    · obtain ⟨h1, h2⟩ := List.mem_filter.1 hm
      obtain ⟨o, ho, e⟩ := h.of m h1
      refine ⟨o, List.mem_filter.2 ⟨ho, ?_⟩, e⟩
      unfold notTx
      rw [e]; exact h2
/-- Each key of an operation that counts has its transaction as a reader. -/
theorem Kept.read {K : List OpS} {L : List Nt} (h : Kept K L) {o : OpS} (ho : o ∈ K) (k y : ByteArray) (hy : y ∈ innerP o.x k) : o.tx ∈ txP L fun n => hasP n.2 o.x.tb y := by
  obtain ⟨m, hm, e1, e2⟩ := h.has o ho _ _ (inner_has (h.is o ho).2.2 k y hy)
  exact ((tx_is L _).2 _).2 ⟨m, hm, e2, e1⟩
/-- What is left behind drops of the first j. -/
def leftP (K : List OpS) (j : Nat) (L : List Nt) : List Nt := L.filter fun n => !((K.take j).any fun o => decide (n.1 = o.tx))
theorem left_zero (K : List OpS) (L : List Nt) : leftP K 0 L = L := by simp [leftP]
theorem left_step {K : List OpS} {L : List Nt} (h : Kept K L) {j : Nat} {o : OpS} (ho : K[j]? = some o) : leftP K (j + 1) L = if o.tx < 1 then leftP K j L else dropP (leftP K j L) o.tx := by
  have := (h.is o (List.mem_of_getElem? ho)).2.1
  rw [if_neg (by omega)]
  unfold leftP dropP
  rw [List.filter_filter]
  refine List.filter_congr fun n _ => ?_
  rw [List.take_add_one, ho, Option.toList_some, List.any_append]
  simp [Bool.and_comm]
theorem left_all {K : List OpS} {L : List Nt} (h : Kept K L) : leftP K K.length L = [] := by
  unfold leftP
  rw [List.take_length, List.filter_eq_nil_iff]
  intro m hm
  obtain ⟨o, ho, e⟩ := h.of m hm
  simp only [Bool.not_eq_true', Bool.not_eq_false]
  exact List.any_eq_true.2 ⟨o, ho, by simp [e]⟩
theorem tx_nil (f : Nt → Bool) : txP [] f = [] := rfl
/-- Two notes of a transaction: none covers the other one. -/
theorem lean_at {L : List Nt} (h : Lean9 L) {t : Int} {i k : Nat} {a b : Rd} (ha : (ofP L t)[i]? = some a) (hb : (ofP L t)[k]? = some b) (hik : i ≠ k) : coversP a b = false := by
  obtain ⟨h1, h2⟩ := of_is h t
  have ma := (h2 a).1 (List.mem_of_getElem? ha)
  have mb := (h2 b).1 (List.mem_of_getElem? hb)
  have hne : a ≠ b := by
    rintro rfl
    have il := (List.getElem?_eq_some_iff.1 ha)
    have kl := (List.getElem?_eq_some_iff.1 hb)
    obtain ⟨il, ie⟩ := il
    obtain ⟨kl, ke⟩ := kl
    have p := List.pairwise_iff_getElem.1 h1
    rcases Nat.lt_or_gt_of_ne hik with hlt | hlt
    · have := p i k il kl hlt
      rw [ie, ke, ahead_irr] at this; cases this
    · have := p k i kl il hlt
      rw [ie, ke, ahead_irr] at this; cases this
  obtain ⟨i', hi'⟩ := List.mem_iff_getElem?.1 ma
  obtain ⟨k', hk'⟩ := List.mem_iff_getElem?.1 mb
  obtain ⟨il, ie⟩ := List.getElem?_eq_some_iff.1 hi'
  obtain ⟨kl, ke⟩ := List.getElem?_eq_some_iff.1 hk'
  have p := List.pairwise_iff_getElem.1 h.lean
  rcases Nat.lt_trichotomy i' k' with hlt | rfl | hlt
  · have := (p i' k' il kl hlt (by rw [ie, ke])).1
    rwa [ie, ke] at this
  · rw [hi'] at hk'
    have : (t, a) = (t, b) := by simpa using hk'
    exact absurd (Prod.ext_iff.1 this).2 hne
  · have := (p k' i' kl il hlt (by rw [ie, ke])).2
    rwa [ie, ke] at this
/-- Behind a note that may be, the book is not empty. -/
theorem note_some {most : Nat} {L : List Nt} (hi : Inv9 most L) (h1 : 1 ≤ most) {t : Int} {x : Rd} (ht : 1 ≤ t) (hx : mayP x = true) : (noteP most L t x).2.length ≠ 0 := by
  cases L with
  | nil => rw [note_first h1 ht hx]; simp
  | cons n L =>
    obtain ⟨-, h2, -, -⟩ := note_keeps hi t x
    obtain ⟨m, hm, -⟩ := h2 n (by simp) _ _ (has_low (hi.ln.may n (by simp)).1)
    have := List.length_pos_of_mem hm
    omega
end Go.Proofs.Ytcpifanhmkblmaa
