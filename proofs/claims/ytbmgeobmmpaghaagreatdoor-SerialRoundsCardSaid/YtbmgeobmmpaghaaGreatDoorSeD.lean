/- Layer 11: the program's right and Check. -/
import Derived.Test.YtbmgeobmmpaghaaGreatDoorSeC
import Derived.Deep.RegionHeld3
set_option linter.unusedVariables false
namespace Go.Proofs.YtbmgeobmmpaghaaGreatDoor
set_option maxRecDepth 100000
open Go.RowKit Go.Maps Go.ChangeMaps Go.MapKept

/-- How often a version is written. -/
def cntW (l : List Ac) (v : Vr) : Int := (l.countP fun a => a.wr && decide ((a.item, a.txn) = v) : Nat)
theorem cntW_next {l : List Ac} {j : Nat} {a : Ac} (h : l[j]? = some a) (v : Vr) : cntW (l.take (j + 1)) v = if a.wr = true ∧ v = (a.item, a.txn) then cntW (l.take j) v + 1 else cntW (l.take j) v := by
  unfold cntW
  rw [List.take_add_one, h, Option.toList_some, List.countP_append]
  cases hw : a.wr
  · simp [hw]
  · by_cases e : v = (a.item, a.txn)
    · subst e; simp [hw]
    · have e2 : ¬ (a.item, a.txn) = v := fun k => e k.symm
      simp [hw, e, e2]
theorem cntW_le (l : List Ac) (j : Nat) (v : Vr) : 0 ≤ cntW (l.take j) v ∧ cntW (l.take j) v ≤ j := by
  unfold cntW
  have := List.countP_le_length (p := fun a : Ac => a.wr && decide ((a.item, a.txn) = v)) (l := l.take j)
  have h2 := List.length_take_le j l
  omega
def rightB (cs : List Int) (ac : List Ac) : Bool := (decide cs.Nodup && !cs.any fun x => decide (x < 1)) && ((ac.all fun a => decide (a.txn ∈ cs)) && ac.all (fitsP (cntW ac)))
theorem cntW_pos {l : List Ac} {it : ByteArray} {t : Int} : 0 < cntW l (it, t) ↔ writesP l t it = true := by
  unfold cntW
  rw [writesP_is]
  have : (0 : Int) < (l.countP fun a => a.wr && decide ((a.item, a.txn) = (it, t)) : Nat) ↔ 0 < l.countP fun a => a.wr && decide ((a.item, a.txn) = (it, t)) := by omega
  rw [this, List.countP_pos_iff]
  constructor
  · rintro ⟨a, h1, h2⟩
    simp at h2
    exact ⟨a, h1, h2.1, h2.2.2, h2.2.1⟩
  · rintro ⟨a, h1, h2, h3, h4⟩
    exact ⟨a, h1, by simp [h2, h3, h4]⟩
theorem cntW_one {l : List Ac} {i : Nat} {a : Ac} (ha : l[i]? = some a) (hw : a.wr = true) (h1 : cntW l (a.item, a.txn) = 1) : (l.take i).any (wrB a.txn a.item) = false := by
  rw [← Bool.not_eq_true]
  intro h
  have h2 : 0 < cntW (l.take i) (a.item, a.txn) := cntW_pos.2 h
  have h3 := cntW_next ha (a.item, a.txn)
  rw [if_pos ⟨hw, rfl⟩] at h3
  have h4 : cntW (l.take (i + 1)) (a.item, a.txn) ≤ cntW l (a.item, a.txn) := by
    unfold cntW
    have := (List.take_sublist (i + 1) l).countP_le (p := fun b : Ac => b.wr && decide ((b.item, b.txn) = (a.item, a.txn)))
    omega
  omega
theorem cntW_two {l : List Ac} (h : ∀ i a, l[i]? = some a → a.wr = true → (l.take i).any (wrB a.txn a.item) = false) (v : Vr) : cntW l v ≤ 1 := by
  have key : ∀ j, j ≤ l.length → cntW (l.take j) v ≤ 1 := by
    intro j
    induction j with
    | zero => intro _; simp [cntW]
    | succ j ih =>
      intro hj
      obtain ⟨a, ha⟩ : ∃ a, l[j]? = some a := ⟨_, List.getElem?_eq_getElem (by omega)⟩
      rw [cntW_next ha]
      split
      · rename_i e
        have h1 := h j a ha e.1
        have h2 : ¬ 0 < cntW (l.take j) v := fun h3 => by
          rw [e.2] at h3
          have := cntW_pos.1 h3
          unfold writesP at this
          rw [h1] at this; cases this
        have := (cntW_le l j v).1
        omega
      · exact ih (by omega)
  have := key l.length (Nat.le_refl _)
  rwa [List.take_length] at this
theorem rightB_iff {cs : List Int} {ac : List Ac} (h1 : ac.length ≤ 4096) (h2 : cs.length ≤ 4096) : rightB cs ac = true ↔ Right cs ac := by
  unfold rightB
  rw [Bool.and_eq_true, Bool.and_eq_true, Bool.and_eq_true, List.all_eq_true, List.all_eq_true]
  constructor
  · rintro ⟨⟨k1, k2⟩, k3, k4⟩
    have hpos : ∀ n ∈ cs, 1 ≤ n := fun n hn => by
      rw [Bool.not_eq_true'] at k2
      have := List.any_eq_false.1 k2 n hn
      simp at this; exact this
    have htx : ∀ a ∈ ac, a.txn ∈ cs := fun a ha => by simpa using k3 a ha
    refine ⟨h1, h2, by simpa using k1, hpos, htx, fun a ha hw => ?_, fun a ha hw => ?_, fun i a ha hw => ?_⟩
    · have := k4 a ha
      unfold fitsP at this
      rw [hw] at this
      simp only [Bool.false_eq_true, if_false, Bool.or_eq_true, decide_eq_true_eq] at this
      rcases this with h | h
      · exact .inl h
      · have hwr := cntW_pos.1 h
        obtain ⟨b, hb, -, e, -⟩ := writesP_is.1 hwr
        exact .inr ⟨by rw [← e]; exact htx b hb, hwr⟩
    · have := k4 a ha
      unfold fitsP at this
      rw [hw] at this
      simp at this
      exact this.1
    · have := k4 a (List.mem_of_getElem? ha)
      unfold fitsP at this
      rw [hw] at this
      simp at this
      exact cntW_one ha hw this.2
  · intro h
    refine ⟨⟨by simpa using h.nd, ?_⟩, fun a ha => by simpa using h.txn a ha, fun a ha => ?_⟩
    · rw [Bool.not_eq_true', List.any_eq_false]
      intro x hx
      have := h.pos x hx
      simp; omega
    · unfold fitsP
      cases hw : a.wr
      · rcases h.rd a ha hw with h3 | ⟨-, h3⟩
        · simp [h3]
        · simp [cntW_pos.2 h3]
      · have h3 : 0 < cntW ac (a.item, a.txn) := cntW_pos.2 (writesP_is.2 ⟨a, ha, hw, rfl, rfl⟩)
        have h4 := cntW_two h.once (a.item, a.txn)
        have h5 : cntW ac (a.item, a.txn) = 1 := by omega
        simp [h.wv a ha hw, h5]
end Go.Proofs.YtbmgeobmmpaghaaGreatDoor
