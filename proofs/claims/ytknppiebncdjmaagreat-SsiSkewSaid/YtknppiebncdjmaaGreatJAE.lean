import Derived.Test.YtknppiebncdjmaaGreatJAC
import Derived.Test.YtknppiebncdjmaaGreatJAD
import Derived.Test.YtknppiebncdjmaaGreatJAA
set_option linter.unusedVariables false
namespace Go.Proofs.YtknppiebncdjmaaGreat
set_option maxRecDepth 100000
open Go.RowKit

end Go.Proofs.YtknppiebncdjmaaGreat

namespace Go.Proofs.YtknppiebncdjmaaGreat
set_option maxRecDepth 100000
open Go.RowKit

def takeP (most : Int) (hs : List Hd) (tx snap last : Int) (l : Lk) : Int × List Hd :=
  if tx < 1 ∨ snap < 0 ∨ last < 0 then (1, hs)
  else match holderP hs l with
    | some x => if x = tx then (0, hs) else (80, hs)
    | none => if snap < last then (81, hs) else if most ≤ hs.length then (4, hs) else (0, hs ++ [(l, tx)])

end Go.Proofs.YtknppiebncdjmaaGreat

namespace Go.Proofs.YtknppiebncdjmaaGreat
set_option maxRecDepth 100000

theorem lkEq_is (a b : Lk) : lkEq a b = decide (a = b) := by
  obtain ⟨a1, a2⟩ := a
  obtain ⟨b1, b2⟩ := b
  unfold lkEq
  simp only [toList_beq8, Prod.mk.injEq]
  by_cases h1 : a1 = b1 <;> by_cases h2 : a2 = b2 <;> simp [h1, h2]
theorem lessB_is (a b : Lk) : lessB a b = true ↔ klB a.1 b.1 = true ∨ (a.1 = b.1 ∧ klB a.2 b.2 = true) := by
  unfold lessB
  rw [toList_beq8]
  simp
theorem lessB_irr (a : Lk) : lessB a a = false := by
  cases h : lessB a a
  · rfl
  · rcases (lessB_is _ _).1 h with h1 | ⟨-, h1⟩ <;> rw [klB_irrefl] at h1 <;> cases h1
theorem lessB_tr (a b c : Lk) (h1 : lessB a b = true) (h2 : lessB b c = true) : lessB a c = true := by
  rw [lessB_is] at h1 h2 ⊢
  rcases h1 with h1 | ⟨e1, h1⟩ <;> rcases h2 with h2 | ⟨e2, h2⟩
  · exact .inl (klB_trans h1 h2)
  · exact .inl (e2 ▸ h1)
  · exact .inl (e1 ▸ h2)
  · exact .inr ⟨e1.trans e2, klB_trans h1 h2⟩
theorem lessB_tri (a b : Lk) (h1 : lessB a b = false) (h2 : lessB b a = false) : a = b := by
  have n1 : ¬ (klB a.1 b.1 = true ∨ (a.1 = b.1 ∧ klB a.2 b.2 = true)) := fun h => by have := (lessB_is a b).2 h; rw [h1] at this; cases this
  have n2 : ¬ (klB b.1 a.1 = true ∨ (b.1 = a.1 ∧ klB b.2 a.2 = true)) := fun h => by have := (lessB_is b a).2 h; rw [h2] at this; cases this
  have e1 : a.1 = b.1 := by
    refine klB_tri ?_ ?_
    · cases h : klB a.1 b.1
      · rfl
      · exact (n1 (.inl h)).elim
    · cases h : klB b.1 a.1
      · rfl
      · exact (n2 (.inl h)).elim
  refine Prod.ext e1 (klB_tri ?_ ?_)
  · cases h : klB a.2 b.2
    · rfl
    · exact (n1 (.inr ⟨e1, h⟩)).elim
  · cases h : klB b.2 a.2
    · rfl
    · exact (n2 (.inr ⟨e1.symm, h⟩)).elim
theorem lessB_asy (a b : Lk) (h : lessB a b = true) : lessB b a = false := by
  cases h2 : lessB b a
  · rfl
  · have := lessB_tr _ _ _ h h2; rw [lessB_irr] at this; cases this

def Once (hs : List Hd) : Prop := (hs.map (·.1)).Nodup
theorem held_is {hs : List Hd} (h : Once hs) (tx : Int) : (heldP hs tx).Pairwise (lessB · · = true) ∧ ∀ y, y ∈ heldP hs tx ↔ (y, tx) ∈ hs := by
  have key : ∀ (l out : List Lk), l.Nodup → (∀ x ∈ l, x ∉ out) → out.Pairwise (lessB · · = true) → (l.foldl insL out).Pairwise (lessB · · = true) ∧ ∀ y, y ∈ l.foldl insL out ↔ y ∈ out ∨ y ∈ l := by
    intro l
    induction l with
    | nil => intro out _ _ h; exact ⟨h, by simp⟩
    | cons x l ih =>
      intro out hn hd h
      obtain ⟨n1, n2⟩ := List.nodup_cons.1 hn
      have i1 : (insL out x).Pairwise (lessB · · = true) := ins_strict (lt := lessB) lessB_tr lessB_tri h fun y hy e => hd x (List.mem_cons_self ..) (e ▸ hy)
      have i2 : ∀ y, y ∈ insL out x ↔ y ∈ out ∨ y = x := fun y => ins_mem out x y _
      obtain ⟨j1, j2⟩ := ih _ n2 (fun y hy hm => by
        rcases (i2 y).1 hm with h1 | h1
        · exact hd y (List.mem_cons_of_mem _ hy) h1
        · subst h1; exact n1 hy) i1
      refine ⟨j1, fun y => ?_⟩
      rw [List.foldl_cons, j2, i2, List.mem_cons, or_assoc]
  have hn : (hisP hs tx).Nodup := by
    unfold hisP
    exact List.Nodup.sublist (List.Sublist.map _ List.filter_sublist) h
  obtain ⟨h1, h2⟩ := key (hisP hs tx) [] hn (by simp) List.Pairwise.nil
  refine ⟨h1, fun y => ?_⟩
  unfold heldP
  rw [h2]
  unfold hisP
  simp only [List.not_mem_nil, false_or, List.mem_map, List.mem_filter, decide_eq_true_eq]
  constructor
  · rintro ⟨⟨l, t⟩, ⟨hm, rfl⟩, rfl⟩; exact hm
  · intro hm; exact ⟨_, ⟨hm, rfl⟩, rfl⟩
theorem held_unique {hs : List Hd} (h : Once hs) {tx : Int} {m : List Lk} (hm : m.Pairwise (lessB · · = true)) (hy : ∀ y, y ∈ m ↔ (y, tx) ∈ hs) : m = heldP hs tx :=
  strict_ext lessB_irr lessB_asy _ _ hm (held_is h tx).1 fun y => (hy y).trans ((held_is h tx).2 y).symm

theorem holder_none {hs : List Hd} {l : Lk} : holderP hs l = none ↔ ∀ tx, (l, tx) ∉ hs := by
  unfold holderP
  simp only [Option.map_eq_none_iff, List.find?_eq_none, lkEq_is, decide_eq_true_eq]
  exact ⟨fun h tx hm => h _ hm rfl, fun h x hx e => h x.2 (by rw [← e]; exact hx)⟩
theorem holder_some {hs : List Hd} (h : Once hs) {l : Lk} {tx : Int} : holderP hs l = some tx ↔ (l, tx) ∈ hs := by
  constructor
  · unfold holderP
    intro e
    obtain ⟨x, hx, rfl⟩ := Option.map_eq_some_iff.1 e
    have h1 := List.find?_some hx
    rw [lkEq_is] at h1
    have h2 := List.mem_of_find?_eq_some hx
    have h1 : x.1 = l := by simpa using h1
    rw [← h1]; exact h2
  · intro hm
    induction hs with
    | nil => cases hm
    | cons x hs ih =>
      obtain ⟨n1, n2⟩ := List.nodup_cons.1 (show (x.1 :: hs.map (·.1)).Nodup from h)
      unfold holderP
      rcases List.mem_cons.1 hm with e | e
      · subst e
        rw [List.find?_cons_of_pos (by rw [lkEq_is]; simp)]; rfl
      · have hne : x.1 ≠ l := fun e2 => n1 (List.mem_map.2 ⟨_, e, by rw [e2]⟩)
        rw [List.find?_cons_of_neg (by rw [lkEq_is]; simpa using hne)]
        exact ih n2 e
theorem Once.take {most : Int} {hs : List Hd} (h : Once hs) (tx snap last : Int) (l : Lk) : Once (takeP most hs tx snap last l).2 := by
  unfold takeP
  split
  · exact h
  · split
    · split <;> exact h
    · rename_i hn
      split
      · exact h
      · split
        · exact h
        · show ((hs ++ [(l, tx)]).map (·.1)).Nodup
          rw [List.map_append, List.map_cons, List.map_nil]
          refine List.nodup_append.2 ⟨h, by simp, fun a ha b hb => ?_⟩
          rw [List.mem_singleton.1 hb]
          rintro rfl
          obtain ⟨x, hx, e⟩ := List.mem_map.1 ha
          exact holder_none.1 hn x.2 (by rw [← e]; exact hx)
theorem Once.release {hs : List Hd} (h : Once hs) (tx : Int) : Once (releaseP hs tx) := List.Nodup.sublist (List.Sublist.map _ List.filter_sublist) h
theorem Once.nil : Once [] := List.nodup_nil
theorem take_len {most : Int} {hs : List Hd} (tx snap last : Int) (l : Lk) (h : (hs.length : Int) ≤ most) : ((takeP most hs tx snap last l).2.length : Int) ≤ most := by
  unfold takeP
  split
  · exact h
  · split
    · split <;> exact h
    · split
      · exact h
      · split
        · exact h
        · rw [List.length_append]; simp; omega
theorem release_len {most : Int} {hs : List Hd} (tx : Int) (h : (hs.length : Int) ≤ most) : ((releaseP hs tx).length : Int) ≤ most := by
  have := List.length_filter_le (fun h : Hd => !decide (h.2 = tx)) hs
  unfold releaseP
  omega
end Go.Proofs.YtknppiebncdjmaaGreat

namespace Go.Proofs.YtknppiebncdjmaaGreat
set_option maxRecDepth 100000

structure Rd where
  tb : ByteArray
  kd : Int
  lo : ByteArray
  hi : ByteArray
instance : Inhabited Rd := ⟨⟨⟨#[]⟩, 0, ⟨#[]⟩, ⟨#[]⟩⟩⟩
abbrev Nt := Int × Rd
def mayP (x : Rd) : Bool := if x.kd = 1 then isE x.hi else if x.kd = 2 then isE x.hi || klB x.lo x.hi else if x.kd = 3 then isE x.lo && isE x.hi else false
def hasP (x : Rd) (t k : ByteArray) : Bool := (x.tb.toList == t.toList) && (if x.kd = 1 then k.toList == x.lo.toList else if x.kd = 2 then !klB k x.lo && (isE x.hi || klB k x.hi) else true)
def endsP (x : Rd) : ByteArray × ByteArray × Bool := if x.kd = 1 then (x.lo, x.lo ++ ⟨#[0]⟩, true) else if x.kd = 2 then (x.lo, x.hi, !isE x.hi) else (⟨#[]⟩, ⟨#[]⟩, false)
def coversP (a b : Rd) : Bool := mayP a && mayP b && (a.tb.toList == b.tb.toList) && !klB (endsP b).1 (endsP a).1 && (!(endsP a).2.2 || ((endsP b).2.2 && !klB (endsP a).2.1 (endsP b).2.1))
theorem may_kd {x : Rd} (h : mayP x = true) : x.kd = 1 ∨ x.kd = 2 ∨ x.kd = 3 := by
  unfold mayP at h
  by_cases h1 : x.kd = 1
  · exact .inl h1
  · by_cases h2 : x.kd = 2
    · exact .inr (.inl h2)
    · by_cases h3 : x.kd = 3
      · exact .inr (.inr h3)
      · simp [h1, h2, h3] at h
theorem has_ends {x : Rd} (h : mayP x = true) (t k : ByteArray) : hasP x t k = ((x.tb.toList == t.toList) && (!klB k (endsP x).1 && (!(endsP x).2.2 || klB k (endsP x).2.1))) := by
  unfold hasP endsP
  rcases may_kd h with h1 | h1 | h1
  · rw [if_pos h1, if_pos h1, toList_beq8 k]
    simp only [klB_zero]
    congr 1
    by_cases e : k = x.lo
    · subst e; simp [klB_irrefl]
    · cases h2 : klB k x.lo with
      | true => simp [e]
      | false =>
        cases h3 : klB x.lo k with
        | true => simp [e]
        | false => exact absurd (klB_tri h2 h3) e
  · have h0 : ¬ x.kd = 1 := by omega
    rw [if_neg h0, if_neg h0, if_pos h1, if_pos h1]
    simp
  · have h0 : ¬ x.kd = 1 := by omega
    have h2 : ¬ x.kd = 2 := by omega
    rw [if_neg h0, if_neg h0, if_neg h2, if_neg h2]
    simp [klB_nil]
theorem covers_has {a b : Rd} (h : coversP a b = true) {t k : ByteArray} (hb : hasP b t k = true) : hasP a t k = true := by
  unfold coversP at h
  simp only [Bool.and_eq_true, Bool.or_eq_true, Bool.not_eq_true'] at h
  obtain ⟨⟨⟨⟨ha, hbm⟩, ht⟩, hl⟩, hu⟩ := h
  rw [has_ends hbm] at hb
  rw [has_ends ha]
  simp only [Bool.and_eq_true, Bool.or_eq_true, Bool.not_eq_true'] at hb ⊢
  obtain ⟨h1, h2, h3⟩ := hb
  refine ⟨?_, ?_, ?_⟩
  · simp only [beq_iff_eq] at h1 ht ⊢; rw [ht, h1]
  · cases h4 : klB k (endsP a).1 with
    | false => rfl
    | true => rw [klB_lt_le h4 hl] at h2; cases h2
  · rcases hu with hu | ⟨hu1, hu2⟩
    · exact .inl hu
    · rcases h3 with h3 | h3
      · rw [hu1] at h3; cases h3
      · exact .inr (klB_lt_le h3 hu2)
theorem covers_table {a b : Rd} (h : coversP a b = true) : a.tb = b.tb := by
  unfold coversP at h
  simp only [Bool.and_eq_true, Bool.or_eq_true, Bool.not_eq_true', beq_iff_eq] at h
  exact ba_toList_inj8 h.1.1.2
theorem covers_self {a : Rd} (h : mayP a = true) : coversP a a = true := by
  unfold coversP
  rw [h]
  simp [klB_irrefl]

def cntP (L : List Nt) (t : Int) (tb : ByteArray) : Nat := (L.filter fun n => decide (n.1 = t) && (n.2.tb.toList == tb.toList)).length
def pairLt (a b : Int × ByteArray) : Bool := decide (a.1 < b.1) || (decide (a.1 = b.1) && klB a.2 b.2)
def coarsestStep (L : List Nt) (acc : Option (Int × ByteArray) × Nat) (n : Nt) : Option (Int × ByteArray) × Nat :=
  if cntP L n.1 n.2.tb < 2 ∨ cntP L n.1 n.2.tb < acc.2 then acc
  else if acc.2 < cntP L n.1 n.2.tb ∨ (acc.1.elim false fun p => pairLt (n.1, n.2.tb) p) = true then (some (n.1, n.2.tb), cntP L n.1 n.2.tb)
  else acc
def coarsestP (L : List Nt) : Option (Int × ByteArray) := (L.foldl (coarsestStep L) (none, 1)).1
def coarseP (L : List Nt) (t : Int) (tb : ByteArray) : List Nt := (L.filter fun n => !(decide (n.1 = t) && (n.2.tb.toList == tb.toList))) ++ [(t, ⟨tb, 3, ⟨#[]⟩, ⟨#[]⟩⟩)]
def shrinkP (most : Nat) : Nat → List Nt → Option (List Nt)
  | 0, L => if L.length ≤ most then some L else none
  | f + 1, L => if L.length ≤ most then some L else (coarsestP L).elim none fun p => shrinkP most f (coarseP L p.1 p.2)
def addP (L : List Nt) (t : Int) (x : Rd) : List Nt := (L.filter fun n => !(decide (n.1 = t) && coversP x n.2)) ++ [(t, x)]
def noteP (most : Nat) (L : List Nt) (t : Int) (x : Rd) : Int × List Nt :=
  if t < 1 ∨ mayP x = false then (1, L)
  else if (L.any fun n => decide (n.1 = t) && coversP n.2 x) = true then (0, L)
  else (shrinkP most (L.length + 1) (addP L t x)).elim (4, L) fun M => (0, M)
def dropP (L : List Nt) (t : Int) : List Nt := L.filter fun n => !decide (n.1 = t)

theorem pairLt_irr (a : Int × ByteArray) : pairLt a a = false := by simp [pairLt, klB_irrefl]
theorem pairLt_tri {a b : Int × ByteArray} (h1 : pairLt a b = false) (h2 : pairLt b a = false) : a = b := by
  unfold pairLt at h1 h2
  simp only [Bool.or_eq_false_iff, decide_eq_false_iff_not, Bool.and_eq_false_iff] at h1 h2
  have e1 : a.1 = b.1 := by omega
  refine Prod.ext e1 (klB_tri ?_ ?_)
  · rcases h1.2 with h | h
    · exact absurd e1 h
    · exact h
  · rcases h2.2 with h | h
    · exact absurd e1.symm h
    · exact h
theorem pairLt_tr {a b c : Int × ByteArray} (h1 : pairLt a b = true) (h2 : pairLt b c = true) : pairLt a c = true := by
  unfold pairLt at *
  simp only [Bool.or_eq_true, decide_eq_true_eq, Bool.and_eq_true] at *
  rcases h1 with h1 | ⟨e1, h1⟩ <;> rcases h2 with h2 | ⟨e2, h2⟩
  · exact .inl (by omega)
  · exact .inl (by omega)
  · exact .inl (by omega)
  · exact .inr ⟨by omega, klB_trans h1 h2⟩
def prP (n : Nt) : Int × ByteArray := (n.1, n.2.tb)
def cntR (L : List Nt) (p : Int × ByteArray) : Nat := cntP L p.1 p.2
structure PairIs (L M : List Nt) (p : Int × ByteArray) : Prop where
  from_ : ∃ n ∈ M, prP n = p
  two : 2 ≤ cntR L p
  most : ∀ n ∈ M, cntR L (prP n) ≤ cntR L p
  least : ∀ n ∈ M, cntR L (prP n) = cntR L p → pairLt (prP n) p = false
theorem step_is (L : List Nt) (M : List Nt) (acc : Option (Int × ByteArray) × Nat) (n : Nt)
    (h : (acc = (none, 1) ∧ ∀ m ∈ M, cntR L (prP m) < 2) ∨ ∃ p, acc = (some p, cntR L p) ∧ PairIs L M p) :
    (coarsestStep L acc n = (none, 1) ∧ ∀ m ∈ M ++ [n], cntR L (prP m) < 2) ∨ ∃ p, coarsestStep L acc n = (some p, cntR L p) ∧ PairIs L (M ++ [n]) p := by
  have hc : cntP L n.1 n.2.tb = cntR L (prP n) := rfl
  unfold coarsestStep
  rw [hc]
  rcases h with ⟨rfl, hM⟩ | ⟨p, rfl, hp⟩
  · by_cases h2 : cntR L (prP n) < 2
    · rw [if_pos (.inl h2)]
      refine .inl ⟨rfl, fun m hm => ?_⟩
      rcases List.mem_append.1 hm with hm | hm
      · exact hM m hm
      · rw [List.mem_singleton.1 hm]; exact h2
    · rw [if_neg (by simp only; omega), if_pos (.inl (by simp only; omega))]
      refine .inr ⟨prP n, rfl, ⟨n, by simp, rfl⟩, by omega, fun m hm => ?_, fun m hm e => ?_⟩
      · rcases List.mem_append.1 hm with hm | hm
        · have := hM m hm; omega
        · rw [List.mem_singleton.1 hm]; exact Nat.le_refl _
      · rcases List.mem_append.1 hm with hm | hm
        · have := hM m hm; omega
        · rw [List.mem_singleton.1 hm]; exact pairLt_irr _
  · have h2 := hp.two
    by_cases h3 : cntR L (prP n) < cntR L p
    · rw [if_pos (.inr h3)]
      refine .inr ⟨p, rfl, ?_, hp.two, fun m hm => ?_, fun m hm e => ?_⟩
      · obtain ⟨m, hm, e⟩ := hp.from_; exact ⟨m, List.mem_append.2 (.inl hm), e⟩
      · rcases List.mem_append.1 hm with hm | hm
        · exact hp.most m hm
        · rw [List.mem_singleton.1 hm]; omega
      · rcases List.mem_append.1 hm with hm | hm
        · exact hp.least m hm e
        · rw [List.mem_singleton.1 hm] at e; omega
    · rw [if_neg (by simp only; omega)]
      by_cases h4 : cntR L p < cntR L (prP n) ∨ pairLt (prP n) p = true
      · rw [if_pos (by exact h4)]
        refine .inr ⟨prP n, rfl, ⟨n, by simp, rfl⟩, by omega, fun m hm => ?_, fun m hm e => ?_⟩
        · rcases List.mem_append.1 hm with hm | hm
          · have := hp.most m hm; omega
          · rw [List.mem_singleton.1 hm]; exact Nat.le_refl _
        · rcases List.mem_append.1 hm with hm | hm
          · have h5 := hp.most m hm
            rcases h4 with h4 | h4
            · omega
            · have h6 := hp.least m hm (by omega)
              cases h7 : pairLt (prP m) (prP n) with
              | false => rfl
              | true => rw [pairLt_tr h7 h4] at h6; cases h6
          · rw [List.mem_singleton.1 hm]; exact pairLt_irr _
      · rw [if_neg (by exact h4)]
        have h5 : ¬ cntR L p < cntR L (prP n) := fun h => h4 (.inl h)
        refine .inr ⟨p, rfl, ?_, hp.two, fun m hm => ?_, fun m hm e => ?_⟩
        · obtain ⟨m, hm, e⟩ := hp.from_; exact ⟨m, List.mem_append.2 (.inl hm), e⟩
        · rcases List.mem_append.1 hm with hm | hm
          · exact hp.most m hm
          · rw [List.mem_singleton.1 hm]; omega
        · rcases List.mem_append.1 hm with hm | hm
          · exact hp.least m hm e
          · rw [List.mem_singleton.1 hm]
            cases h7 : pairLt (prP n) p with
            | false => rfl
            | true => exact absurd (.inr h7) h4
theorem fold_is (L : List Nt) : ∀ (M N : List Nt) (acc : Option (Int × ByteArray) × Nat), ((acc = (none, 1) ∧ ∀ m ∈ M, cntR L (prP m) < 2) ∨ ∃ p, acc = (some p, cntR L p) ∧ PairIs L M p) →
    ((N.foldl (coarsestStep L) acc = (none, 1) ∧ ∀ m ∈ M ++ N, cntR L (prP m) < 2) ∨ ∃ p, N.foldl (coarsestStep L) acc = (some p, cntR L p) ∧ PairIs L (M ++ N) p)
  | M, [], acc, h => by simpa using h
  | M, n :: N, acc, h => by
    have := fold_is L (M ++ [n]) N _ (step_is L M acc n h)
    simpa using this
theorem coarsest_is (L : List Nt) : (coarsestP L = none ∧ ∀ m ∈ L, cntR L (prP m) < 2) ∨ ∃ p, coarsestP L = some p ∧ PairIs L L p := by
  have h := fold_is L [] L (none, 1) (.inl ⟨rfl, by simp⟩)
  rw [List.nil_append] at h
  unfold coarsestP
  rcases h with ⟨h1, h2⟩ | ⟨p, h1, h2⟩
  · exact .inl ⟨by rw [h1], h2⟩
  · exact .inr ⟨p, by rw [h1], h2⟩
theorem pair_unique {L : List Nt} {p q : Int × ByteArray} (hp : PairIs L L p) (hq : PairIs L L q) : p = q := by
  obtain ⟨n, hn, en⟩ := hp.from_
  obtain ⟨m, hm, em⟩ := hq.from_
  have h1 := hp.most m hm
  have h2 := hq.most n hn
  rw [em] at h1
  rw [en] at h2
  have h3 := hp.least m hm (by rw [em]; omega)
  have h4 := hq.least n hn (by rw [en]; omega)
  rw [em] at h3
  rw [en] at h4
  exact pairLt_tri h4 h3
end Go.Proofs.YtknppiebncdjmaaGreat

namespace Go.Proofs.YtknppiebncdjmaaGreat
set_option maxRecDepth 100000

theorem pr_is (n : Nt) (t : Int) (tb : ByteArray) : (decide (n.1 = t) && (n.2.tb.toList == tb.toList)) = decide (prP n = (t, tb)) := by
  rw [toList_beq8]
  unfold prP
  by_cases h1 : n.1 = t <;> by_cases h2 : n.2.tb = tb <;> simp [h1, h2]
theorem cntP_is (L : List Nt) (t : Int) (tb : ByteArray) : cntP L t tb = (L.filter fun n => decide (prP n = (t, tb))).length := by
  unfold cntP
  congr 1
  exact List.filter_congr fun n _ => pr_is n t tb
theorem coarseP_is (L : List Nt) (t : Int) (tb : ByteArray) : coarseP L t tb = (L.filter fun n => !decide (prP n = (t, tb))) ++ [(t, ⟨tb, 3, ⟨#[]⟩, ⟨#[]⟩⟩)] := by
  unfold coarseP
  congr 1
  exact List.filter_congr fun n _ => by rw [pr_is]
theorem filter_parts (L : List Nt) (f : Nt → Bool) : (L.filter f).length + (L.filter fun n => !f n).length = L.length := by
  induction L with
  | nil => rfl
  | cons n L ih =>
    cases h : f n <;> simp [h] <;> omega
theorem coarse_len (L : List Nt) (t : Int) (tb : ByteArray) : (coarseP L t tb).length + cntP L t tb = L.length + 1 := by
  rw [coarseP_is, cntP_is, List.length_append]
  have := filter_parts L fun n => decide (prP n = (t, tb))
  simp only [List.length_singleton]
  omega
structure Lean9 (L : List Nt) : Prop where
  may : ∀ n ∈ L, mayP n.2 = true ∧ 1 ≤ n.1
  lean : L.Pairwise fun a b => a.1 = b.1 → coversP a.2 b.2 = false ∧ coversP b.2 a.2 = false
theorem Lean9.nil : Lean9 [] := ⟨by simp, List.Pairwise.nil⟩
theorem Lean9.filter {L : List Nt} (h : Lean9 L) (f : Nt → Bool) : Lean9 (L.filter f) := ⟨fun n hn => h.may n (List.mem_filter.1 hn).1, h.lean.sublist List.filter_sublist⟩
theorem Lean9.add {L : List Nt} (h : Lean9 L) {n : Nt} (hm : mayP n.2 = true) (ht : 1 ≤ n.1) (hc : ∀ m ∈ L, m.1 = n.1 → coversP m.2 n.2 = false ∧ coversP n.2 m.2 = false) : Lean9 (L ++ [n]) := by
  refine ⟨fun m hm' => ?_, ?_⟩
  · rcases List.mem_append.1 hm' with h1 | h1
    · exact h.may m h1
    · rw [List.mem_singleton.1 h1]; exact ⟨hm, ht⟩
  · rw [List.pairwise_append]
    exact ⟨h.lean, List.pairwise_singleton _ _, fun a ha b hb e => by rw [List.mem_singleton.1 hb] at e ⊢; exact hc a ha e⟩
theorem may_table (tb : ByteArray) : mayP ⟨tb, 3, ⟨#[]⟩, ⟨#[]⟩⟩ = true := by
  unfold mayP
  simp [isE_is]
theorem Lean9.coarse {L : List Nt} (h : Lean9 L) {p : Int × ByteArray} (hp : ∃ n ∈ L, prP n = p) : Lean9 (coarseP L p.1 p.2) := by
  rw [coarseP_is]
  obtain ⟨n, hn, e⟩ := hp
  refine (h.filter _).add (may_table _) (by rw [← e]; exact (h.may n hn).2) fun m hm e2 => ?_
  have h1 := (List.mem_filter.1 hm).2
  have hne : m.2.tb ≠ p.2 := by
    intro e3
    simp only [Bool.not_eq_true', decide_eq_false_iff_not] at h1
    exact h1 (Prod.ext e2 e3)
  constructor
  · cases h2 : coversP m.2 ⟨p.2, 3, ⟨#[]⟩, ⟨#[]⟩⟩ with
    | false => rfl
    | true => exact absurd (covers_table h2) hne
  · cases h2 : coversP ⟨p.2, 3, ⟨#[]⟩, ⟨#[]⟩⟩ m.2 with
    | false => rfl
    | true => exact absurd (covers_table h2).symm hne
def Holds9 (L M : List Nt) : Prop := ∀ n ∈ L, ∀ t k, hasP n.2 t k = true → ∃ m ∈ M, m.1 = n.1 ∧ hasP m.2 t k = true
theorem Holds9.refl (L : List Nt) : Holds9 L L := fun n hn t k h => ⟨n, hn, rfl, h⟩
theorem Holds9.trans {L M N : List Nt} (h1 : Holds9 L M) (h2 : Holds9 M N) : Holds9 L N := fun n hn t k h => by
  obtain ⟨m, hm, e, hh⟩ := h1 n hn t k h
  obtain ⟨x, hx, e2, hh2⟩ := h2 m hm t k hh
  exact ⟨x, hx, e2.trans e, hh2⟩
def From9 (L M : List Nt) : Prop := ∀ m ∈ M, ∃ n ∈ L, n.1 = m.1
theorem From9.refl (L : List Nt) : From9 L L := fun n hn => ⟨n, hn, rfl⟩
theorem From9.trans {L M N : List Nt} (h1 : From9 L M) (h2 : From9 M N) : From9 L N := fun x hx => by
  obtain ⟨m, hm, e⟩ := h2 x hx
  obtain ⟨n, hn, e2⟩ := h1 m hm
  exact ⟨n, hn, e2.trans e⟩
theorem coarse_holds (L : List Nt) (p : Int × ByteArray) : Holds9 L (coarseP L p.1 p.2) := fun n hn t k h => by
  rw [coarseP_is]
  by_cases e : prP n = (p.1, p.2)
  · refine ⟨(p.1, ⟨p.2, 3, ⟨#[]⟩, ⟨#[]⟩⟩), by simp, (congrArg Prod.fst e).symm, ?_⟩
    have ht : n.2.tb = p.2 := congrArg Prod.snd e
    unfold hasP at h ⊢
    simp only [Bool.and_eq_true] at h ⊢
    refine ⟨by rw [← ht]; exact h.1, ?_⟩
    rw [if_neg (by decide), if_neg (by decide)]
  · exact ⟨n, List.mem_append.2 (.inl (List.mem_filter.2 ⟨hn, by simpa using e⟩)), rfl, h⟩
theorem coarse_from {L : List Nt} {p : Int × ByteArray} (hp : ∃ n ∈ L, prP n = p) : From9 L (coarseP L p.1 p.2) := fun m hm => by
  rw [coarseP_is] at hm
  rcases List.mem_append.1 hm with h | h
  · exact ⟨m, (List.mem_filter.1 h).1, rfl⟩
  · rw [List.mem_singleton.1 h]
    obtain ⟨n, hn, e⟩ := hp
    exact ⟨n, hn, (congrArg Prod.fst e : (prP n).1 = p.1)⟩
theorem shrink_some {most : Nat} : ∀ (f : Nat) (L M : List Nt), Lean9 L → shrinkP most f L = some M → M.length ≤ most ∧ Lean9 M ∧ Holds9 L M ∧ From9 L M
  | 0, L, M, hl, h => by
    unfold shrinkP at h
    split at h
    · rename_i hle; cases h; exact ⟨hle, hl, Holds9.refl _, From9.refl _⟩
    · cases h
  | f + 1, L, M, hl, h => by
    unfold shrinkP at h
    split at h
    · rename_i hle; cases h; exact ⟨hle, hl, Holds9.refl _, From9.refl _⟩
    · rcases coarsest_is L with ⟨h1, -⟩ | ⟨p, h1, hp⟩
      · rw [h1] at h; cases h
      · rw [h1] at h
        obtain ⟨a, b, c, d⟩ := shrink_some f _ M (hl.coarse hp.from_) h
        exact ⟨a, b, (coarse_holds L p).trans c, (coarse_from hp.from_).trans d⟩
theorem add_lean {L : List Nt} (h : Lean9 L) {t : Int} {x : Rd} (ht : 1 ≤ t) (hm : mayP x = true) (hc : (L.any fun n => decide (n.1 = t) && coversP n.2 x) = false) : Lean9 (addP L t x) := by
  unfold addP
  refine (h.filter _).add hm ht fun m hm' e => ?_
  obtain ⟨h1, h2⟩ := List.mem_filter.1 hm'
  have h3 := List.any_eq_false.1 hc m h1
  simp only at e
  simp only [e, decide_true, Bool.true_and, Bool.not_eq_true', Bool.not_eq_true] at h2 h3
  exact ⟨h3, h2⟩
theorem add_holds (L : List Nt) (t : Int) (x : Rd) : Holds9 L (addP L t x) := fun n hn tb k h => by
  unfold addP
  cases hc : decide (n.1 = t) && coversP x n.2 with
  | false => exact ⟨n, List.mem_append.2 (.inl (List.mem_filter.2 ⟨hn, by rw [hc]; rfl⟩)), rfl, h⟩
  | true =>
    simp only [Bool.and_eq_true, decide_eq_true_eq] at hc
    exact ⟨(t, x), by simp, hc.1.symm, covers_has hc.2 h⟩
structure Inv9 (most : Nat) (L : List Nt) : Prop where
  ln : Lean9 L
  cap : L.length ≤ most
theorem Inv9.nil (most : Nat) : Inv9 most [] := ⟨Lean9.nil, Nat.zero_le _⟩
theorem note_keeps {most : Nat} {L : List Nt} (h : Inv9 most L) (t : Int) (x : Rd) :
    Inv9 most (noteP most L t x).2 ∧ Holds9 L (noteP most L t x).2 ∧ (∀ m ∈ (noteP most L t x).2, m.1 = t ∧ (noteP most L t x).1 = 0 ∨ ∃ n ∈ L, n.1 = m.1) ∧
      ((noteP most L t x).1 = 0 → 1 ≤ t ∧ mayP x = true ∧ ∀ tb k, hasP x tb k = true → ∃ m ∈ (noteP most L t x).2, m.1 = t ∧ hasP m.2 tb k = true) := by
  have stay : ∀ m ∈ L, m.1 = t ∧ (0 : Int) = 0 ∨ ∃ n ∈ L, n.1 = m.1 := fun m hm => .inr ⟨m, hm, rfl⟩
  unfold noteP
  by_cases h1 : t < 1 ∨ mayP x = false
  · rw [if_pos h1]
    exact ⟨h, Holds9.refl _, fun m hm => .inr ⟨m, hm, rfl⟩, fun e => by cases e⟩
  · rw [if_neg h1]
    have ht : 1 ≤ t := by omega
    have hm : mayP x = true := by
      cases e : mayP x with
      | true => rfl
      | false => exact absurd (.inr e) h1
    cases h2 : L.any fun n => decide (n.1 = t) && coversP n.2 x with
    | true =>
      rw [if_pos rfl]
      refine ⟨h, Holds9.refl _, fun m hm => .inr ⟨m, hm, rfl⟩, fun _ => ⟨ht, hm, fun tb k hk => ?_⟩⟩
      obtain ⟨n, hn, hc⟩ := List.any_eq_true.1 h2
      simp only [Bool.and_eq_true, decide_eq_true_eq] at hc
      exact ⟨n, hn, hc.1, covers_has hc.2 hk⟩
    | false =>
      rw [if_neg (by simp)]
      have hl := add_lean h.ln ht hm h2
      cases h3 : shrinkP most (L.length + 1) (addP L t x) with
      | none => exact ⟨h, Holds9.refl _, fun m hm => .inr ⟨m, hm, rfl⟩, fun e => by cases e⟩
      | some M =>
        obtain ⟨a, b, c, d⟩ := shrink_some _ _ M hl h3
        refine ⟨⟨b, a⟩, (add_holds L t x).trans c, fun m hm' => ?_, fun _ => ⟨ht, hm, fun tb k hk => c (t, x) (by simp [addP]) tb k hk⟩⟩
        obtain ⟨n, hn, e⟩ := d m hm'
        unfold addP at hn
        rcases List.mem_append.1 hn with hn | hn
        · exact .inr ⟨n, (List.mem_filter.1 hn).1, e⟩
        · rw [List.mem_singleton.1 hn] at e
          exact .inl ⟨e.symm, rfl⟩
theorem drop_keeps {most : Nat} {L : List Nt} (h : Inv9 most L) (t : Int) : Inv9 most (dropP L t) := ⟨h.ln.filter _, Nat.le_trans (List.length_filter_le _ _) h.cap⟩
end Go.Proofs.YtknppiebncdjmaaGreat
