import Derived.Test.YtnpeankmmojebaaGreatDoorSRow
import Derived.Test.YtnpeankmmojebaaGreatDoorJAC
import Derived.Lib.Bytealg
import Derived.Shelf.SlSortCmp.InsertionK
/- Layer 9: strings.Compare, cmp.Compare, cmp.Or. -/
set_option linter.unusedVariables false
namespace Go.Proofs.YtnpeankmmojebaaGreatDoor
set_option maxRecDepth 100000
set_option maxRecDepth 100000
open Go.RowKit

theorem cb_lt8 : ∀ x y : List UInt8, decide (Lib.compareBytes x y < 0) = Op.bytesLess x y
  | [], [] => rfl
  | [], _ :: _ => rfl
  | _ :: _, [] => rfl
  | a :: x, b :: y => by
    have ih := cb_lt8 x y
    unfold Lib.compareBytes Op.bytesLess
    by_cases h1 : a < b
    · simp [h1]
    · by_cases h2 : b < a
      · have h3 : ¬ a = b := fun e => by subst e; exact h1 h2
        simp [h1, h2, h3]
      · have h3 : a = b := UInt8.le_antisymm (UInt8.not_lt.1 h2) (UInt8.not_lt.1 h1)
        subst h3
        simp only [h1, if_false, ih]
        simp
theorem cb_zero8 : ∀ x y : List UInt8, Lib.compareBytes x y = 0 ↔ x = y
  | [], [] => by simp [Lib.compareBytes]
  | [], _ :: _ => by simp [Lib.compareBytes]
  | _ :: _, [] => by simp [Lib.compareBytes]
  | a :: x, b :: y => by
    have ih := cb_zero8 x y
    unfold Lib.compareBytes
    by_cases h1 : a < b
    · have h3 : ¬ a = b := fun e => by subst e; exact UInt8.lt_irrefl _ h1
      simp [h1, h3]
    · by_cases h2 : b < a
      · have h3 : ¬ a = b := fun e => by subst e; exact UInt8.lt_irrefl _ h2
        simp [h1, h2, h3]
      · have h3 : a = b := UInt8.le_antisymm (UInt8.not_lt.1 h2) (UInt8.not_lt.1 h1)
        subst h3
        simp only [h1, if_false, ih]
        simp
def cmpS (a b : ByteArray) : Int := Lib.compareBytes a.data.toList b.data.toList
theorem cmpS_lt (a b : ByteArray) : decide (cmpS a b < 0) = klB a b := by
  unfold klB
  rw [ByteArray.toList_eq, ByteArray.toList_eq]
  exact cb_lt8 _ _
theorem cmpS_zero (a b : ByteArray) : cmpS a b = 0 ↔ a = b := by
  unfold cmpS
  rw [cb_zero8]
  cases a; cases b
  simp
/-- The world has grown and drawn, no more. -/
def Gs (w w' : World) : Prop := ∃ q os, w' = Sort.grow (w.drewN q) os
theorem Gs.refl (w : World) : Gs w w := ⟨0, #[], by simp [Sort.grow_empty]; rfl⟩
theorem Gs.alloc {w w' : World} (h : Gs w w') (o : Obj) : Gs w (w'.alloc o) := by
  obtain ⟨q, os, rfl⟩ := h
  exact ⟨q, os ++ #[o], by rw [Sort.alloc_eq_grow, Sort.grow_grow]⟩
theorem Gs.drewN {w w' : World} (h : Gs w w') (n : Nat) : Gs w (w'.drewN n) := by
  obtain ⟨q, os, rfl⟩ := h
  exact ⟨q + n, os, by unfold Sort.grow World.drewN; simp [Nat.add_assoc]⟩
theorem Gs.drew {w w' : World} (h : Gs w w') : Gs w w'.drew := h.drewN 1

theorem Gs.below {w w' : World} (h : Gs w w') : Below w.heap.size w w' := by
  obtain ⟨q, os, rfl⟩ := h
  refine ⟨rfl, rfl, rfl, by simp [Sort.grow, World.drewN], fun k hk => ?_⟩
  unfold Sort.grow World.drewN
  exact Array.getElem?_append_left hk
def cmpI (a b : Int) : Int := if a < b then -1 else if b < a then 1 else 0
theorem cmpI_lt (a b : Int) : decide (cmpI a b < 0) = decide (a < b) := by
  unfold cmpI
  split
  · simp [*]
  · split <;> simp [*]
theorem cmpI_zero (a b : Int) : cmpI a b = 0 ↔ a = b := by
  unfold cmpI
  split
  · simp; omega
  · split
    · simp; omega
    · simp; omega
set_option maxHeartbeats 2000000 in
theorem wcmp_int (a b : Int) (w : World) : Calls Tryz.prog 55 #[.int .i64 a, .int .i64 b] w fun e w' => e = .returned (.int .i64 (cmpI a b)) ∧ w' = w := by
  by_cases h1 : a < b
  · have HM := Lib.hid (show cmpI a b = -1 by unfold cmpI; rw [if_pos h1])
    go_enter Tryz.func55, Tryz.ntmps55
    go_wp2
    go_ret
    exact ⟨by rw [HM.out] <;> rfl, rfl⟩
  · by_cases h2 : b < a
    · have HM := Lib.hid (show cmpI a b = 1 by unfold cmpI; rw [if_neg h1, if_pos h2])
      go_enter Tryz.func55, Tryz.ntmps55
      go_wp2
      go_ret
      exact ⟨by rw [HM.out] <;> rfl, rfl⟩
    · have HM := Lib.hid (show cmpI a b = 0 by unfold cmpI; rw [if_neg h1, if_neg h2])
      go_enter Tryz.func55, Tryz.ntmps55
      go_wp2
      go_ret
      exact ⟨by rw [HM.out] <;> rfl, rfl⟩
def numV (l : List Int) : List Value := l.map (.int .i64)
def orP (xs : List Int) : Int := (xs.find? (fun x => decide (x ≠ 0))).getD 0
theorem orP_drop (xs : List Int) (k : Nat) (h : ∀ j x, j < k → xs[j]? = some x → x = 0) : orP xs = orP (xs.drop k) := by
  induction k generalizing xs with
  | zero => rfl
  | succ k ih =>
    cases xs with
    | nil => rfl
    | cons a xs =>
      have h0 := h 0 a (by omega) rfl
      subst h0
      have := ih xs fun j x hj hx => h (j + 1) x (by omega) (by simpa using hx)
      rw [List.drop_succ_cons, ← this]
      rfl
set_option maxHeartbeats 2000000 in
theorem wcmpOrL {w : World} {g n : Nat} {xs : List Int} (hl : xs.length = n) (hn : n ≤ 100) (hc : ∀ j x, xs[j]? = some x → w.cell? ⟨g, j, none⟩ = some (.int .i64 x)) : Calls Tryz.prog 54 #[.slice (some ⟨g, 0, none⟩) n n] w fun e w' => e = .returned (.int .i64 (orP xs)) ∧ w' = w := by
  have HC := Lib.hid hc
  have HL := Lib.hid hl
  have HN := Lib.hid hn
  clear hc hl hn
  go_enter Tryz.func54, Tryz.ntmps54
  go_upto_region 3 with fail
  go_loopw [8] (fun a' wz => ∃ k : Nat, a' = .int .i64 (k : Nat) ∧ k ≤ n ∧ wz = w ∧ ∀ j x, j < k → xs[j]? = some x → x = 0) (fun a' _ => n - (intOf a').toNat)
  case atStart => exact ⟨0, rfl, Nat.zero_le _, rfl, fun j x hj => absurd hj (by omega)⟩
  case round =>
    rename World => wz
    obtain ⟨k, rfl, hk, rfl, hz⟩ := hrel
    have HZ := Lib.hid hz
    have HD := Lib.hid (orP_drop xs k hz)
    clear hz
    by_cases hkn : k < n
    · obtain ⟨x, hx⟩ : ∃ x, xs[k]? = some x := ⟨_, List.getElem?_eq_getElem (by rw [HL.out]; exact hkn)⟩
      have c0 := HC.out k x hx
      have i1 : (k : Int) < (n : Int) := by omega
      have hk2 : k ≤ 100 := by have := HN.out; omega
      have HX := Lib.hid hx
      have HD2 := Lib.hid (show orP xs = if x ≠ 0 then x else orP (xs.drop (k + 1)) by
        rw [HD.out, List.drop_eq_getElem_cons (by rw [HL.out]; exact hkn)]
        rw [List.getElem?_eq_getElem (by rw [HL.out]; exact hkn)] at hx
        cases hx
        unfold orP
        have hkx : k < xs.length := by rw [HL.out]; exact hkn
        by_cases h0 : xs[k] = 0
        · rw [List.find?_cons_of_neg (by simpa using h0), if_neg (by simpa using h0)]
        · rw [List.find?_cons_of_pos (by simpa using h0), if_pos h0]; rfl)
      have HK := Lib.hid hkn
      clear hx hk hkn
      by_cases h0 : x = 0
      · subst h0
        go_wp2
        go_roundw
        case rel => exact ⟨k + 1, by go_num, HK.out, by first | rfl | trivial, fun j x hj hx => by
          rcases Nat.lt_or_ge j k with h1 | h1
          · exact HZ.out j x h1 hx
          · have : j = k := by omega
            subst this
            rw [HX.out] at hx
            cases hx; rfl⟩
        case measure => have := HK.out; simp [intOf]; omega
      · have HR := Lib.hid (show orP xs = x by rw [HD2.out, if_pos h0])
        go_wp2
        go_ret
        exact ⟨by rw [HR.out] <;> rfl, rfl⟩
    · have hkn2 : k = n := by omega
      have HR := Lib.hid (show orP xs = 0 by rw [HD.out, List.drop_eq_nil_of_le (by rw [HL.out, hkn2]; exact Nat.le_refl _)]; rfl)
      have i1 : ¬ (k : Int) < (n : Int) := by omega
      clear hkn hk hkn2
      go_wp2
      go_ret
      exact ⟨by rw [HR.out] <;> rfl, rfl⟩
end Go.Proofs.YtnpeankmmojebaaGreatDoor

/- Layer 9, plain lists: notes of reads, what covers what, and what a note more makes of them. -/
namespace Go.Proofs.YtnpeankmmojebaaGreatDoor
set_option maxRecDepth 100000

/-- A note: its table, its kind, from which key on, below which. -/
structure Rd where
  tb : ByteArray
  kd : Int
  lo : ByteArray
  hi : ByteArray
instance : Inhabited Rd := ⟨⟨⟨#[]⟩, 0, ⟨#[]⟩, ⟨#[]⟩⟩⟩
/-- A note of a transaction. -/
abbrev Nt := Int × Rd
def mayP (x : Rd) : Bool := if x.kd = 1 then isE x.hi else if x.kd = 2 then isE x.hi || klB x.lo x.hi else if x.kd = 3 then isE x.lo && isE x.hi else false
def hasP (x : Rd) (t k : ByteArray) : Bool := (x.tb.toList == t.toList) && (if x.kd = 1 then k.toList == x.lo.toList else if x.kd = 2 then !klB k x.lo && (isE x.hi || klB k x.hi) else true)
def endsP (x : Rd) : ByteArray × ByteArray × Bool := if x.kd = 1 then (x.lo, x.lo ++ ⟨#[0]⟩, true) else if x.kd = 2 then (x.lo, x.hi, !isE x.hi) else (⟨#[]⟩, ⟨#[]⟩, false)
def coversP (a b : Rd) : Bool := mayP a && mayP b && (a.tb.toList == b.tb.toList) && !klB (endsP b).1 (endsP a).1 && (!(endsP a).2.2 || ((endsP b).2.2 && !klB (endsP a).2.1 (endsP b).2.1))
theorem may_kd {x : Rd} (h : mayP x = true) : x.kd = 1 ∨ x.kd = 2 ∨ x.kd = 3 := by
  unfold mayP at h
  by_cases h1 : x.kd = 1
  · exact .inl h1
  · by_cases h2 : x.kd = 2
    · exact .inr (.inl h2)
    · by_cases h3 : x.kd = 3
      · exact .inr (.inr h3)
      · simp [h1, h2, h3] at h
theorem has_ends {x : Rd} (h : mayP x = true) (t k : ByteArray) : hasP x t k = ((x.tb.toList == t.toList) && (!klB k (endsP x).1 && (!(endsP x).2.2 || klB k (endsP x).2.1))) := by
  unfold hasP endsP
  rcases may_kd h with h1 | h1 | h1
  · rw [if_pos h1, if_pos h1, toList_beq8 k]
    simp only [klB_zero]
    congr 1
    by_cases e : k = x.lo
    · subst e; simp [klB_irrefl]
    · cases h2 : klB k x.lo with
      | true => simp [e]
      | false =>
        cases h3 : klB x.lo k with
        | true => simp [e]
        | false => exact absurd (klB_tri h2 h3) e
  · have h0 : ¬ x.kd = 1 := by omega
    rw [if_neg h0, if_neg h0, if_pos h1, if_pos h1]
    simp
  · have h0 : ¬ x.kd = 1 := by omega
    have h2 : ¬ x.kd = 2 := by omega
    rw [if_neg h0, if_neg h0, if_neg h2, if_neg h2]
    simp [klB_nil]
/-- What covers a note holds each of its keys. -/
theorem covers_has {a b : Rd} (h : coversP a b = true) {t k : ByteArray} (hb : hasP b t k = true) : hasP a t k = true := by
  unfold coversP at h
  simp only [Bool.and_eq_true, Bool.or_eq_true, Bool.not_eq_true'] at h
  obtain ⟨⟨⟨⟨ha, hbm⟩, ht⟩, hl⟩, hu⟩ := h
  rw [has_ends hbm] at hb
  rw [has_ends ha]
  simp only [Bool.and_eq_true, Bool.or_eq_true, Bool.not_eq_true'] at hb ⊢
  obtain ⟨h1, h2, h3⟩ := hb
  refine ⟨?_, ?_, ?_⟩
  · simp only [beq_iff_eq] at h1 ht ⊢; rw [ht, h1]
  · cases h4 : klB k (endsP a).1 with
    | false => rfl
    | true => rw [klB_lt_le h4 hl] at h2; cases h2
  · rcases hu with hu | ⟨hu1, hu2⟩
    · exact .inl hu
    · rcases h3 with h3 | h3
      · rw [hu1] at h3; cases h3
      · exact .inr (klB_lt_le h3 hu2)
theorem covers_table {a b : Rd} (h : coversP a b = true) : a.tb = b.tb := by
  unfold coversP at h
  simp only [Bool.and_eq_true, Bool.or_eq_true, Bool.not_eq_true', beq_iff_eq] at h
  exact ba_toList_inj8 h.1.1.2
theorem covers_self {a : Rd} (h : mayP a = true) : coversP a a = true := by
  unfold coversP
  rw [h]
  simp [klB_irrefl]

/-- How many notes a transaction has of a table. -/
def cntP (L : List Nt) (t : Int) (tb : ByteArray) : Nat := (L.filter fun n => decide (n.1 = t) && (n.2.tb.toList == tb.toList)).length
/-- Which pair of a transaction and a table stands ahead. -/
def pairLt (a b : Int × ByteArray) : Bool := decide (a.1 < b.1) || (decide (a.1 = b.1) && klB a.2 b.2)
def coarsestStep (L : List Nt) (acc : Option (Int × ByteArray) × Nat) (n : Nt) : Option (Int × ByteArray) × Nat :=
  if cntP L n.1 n.2.tb < 2 ∨ cntP L n.1 n.2.tb < acc.2 then acc
  else if acc.2 < cntP L n.1 n.2.tb ∨ (acc.1.elim false fun p => pairLt (n.1, n.2.tb) p) = true then (some (n.1, n.2.tb), cntP L n.1 n.2.tb)
  else acc
/-- The pair with the most notes, and at least two; of several the least. -/
def coarsestP (L : List Nt) : Option (Int × ByteArray) := (L.foldl (coarsestStep L) (none, 1)).1
def coarseP (L : List Nt) (t : Int) (tb : ByteArray) : List Nt := (L.filter fun n => !(decide (n.1 = t) && (n.2.tb.toList == tb.toList))) ++ [(t, ⟨tb, 3, ⟨#[]⟩, ⟨#[]⟩⟩)]
/-- Notes of pairs are made one, until there are no more than the cap; as often as is said. -/
def shrinkP (most : Nat) : Nat → List Nt → Option (List Nt)
  | 0, L => if L.length ≤ most then some L else none
  | f + 1, L => if L.length ≤ most then some L else (coarsestP L).elim none fun p => shrinkP most f (coarseP L p.1 p.2)
def addP (L : List Nt) (t : Int) (x : Rd) : List Nt := (L.filter fun n => !(decide (n.1 = t) && coversP x n.2)) ++ [(t, x)]
/-- What Note answers, and which notes there are then. -/
def noteP (most : Nat) (L : List Nt) (t : Int) (x : Rd) : Int × List Nt :=
  if t < 1 ∨ mayP x = false then (1, L)
  else if (L.any fun n => decide (n.1 = t) && coversP n.2 x) = true then (0, L)
  else (shrinkP most (L.length + 1) (addP L t x)).elim (4, L) fun M => (0, M)
def dropP (L : List Nt) (t : Int) : List Nt := L.filter fun n => !decide (n.1 = t)

theorem pairLt_irr (a : Int × ByteArray) : pairLt a a = false := by simp [pairLt, klB_irrefl]
theorem pairLt_tri {a b : Int × ByteArray} (h1 : pairLt a b = false) (h2 : pairLt b a = false) : a = b := by
  unfold pairLt at h1 h2
  simp only [Bool.or_eq_false_iff, decide_eq_false_iff_not, Bool.and_eq_false_iff] at h1 h2
  have e1 : a.1 = b.1 := by omega
  refine Prod.ext e1 (klB_tri ?_ ?_)
  · rcases h1.2 with h | h
    · exact absurd e1 h
    · exact h
  · rcases h2.2 with h | h
    · exact absurd e1.symm h
    · exact h
theorem pairLt_tr {a b c : Int × ByteArray} (h1 : pairLt a b = true) (h2 : pairLt b c = true) : pairLt a c = true := by
  unfold pairLt at *
  simp only [Bool.or_eq_true, decide_eq_true_eq, Bool.and_eq_true] at *
  rcases h1 with h1 | ⟨e1, h1⟩ <;> rcases h2 with h2 | ⟨e2, h2⟩
  · exact .inl (by omega)
  · exact .inl (by omega)
  · exact .inl (by omega)
  · exact .inr ⟨by omega, klB_trans h1 h2⟩
/-- The pair of a note. -/
def prP (n : Nt) : Int × ByteArray := (n.1, n.2.tb)
def cntR (L : List Nt) (p : Int × ByteArray) : Nat := cntP L p.1 p.2
/-- This is the pair that is asked for. -/
structure PairIs (L M : List Nt) (p : Int × ByteArray) : Prop where
  from_ : ∃ n ∈ M, prP n = p
  two : 2 ≤ cntR L p
  most : ∀ n ∈ M, cntR L (prP n) ≤ cntR L p
  least : ∀ n ∈ M, cntR L (prP n) = cntR L p → pairLt (prP n) p = false
theorem step_is (L : List Nt) (M : List Nt) (acc : Option (Int × ByteArray) × Nat) (n : Nt)
    (h : (acc = (none, 1) ∧ ∀ m ∈ M, cntR L (prP m) < 2) ∨ ∃ p, acc = (some p, cntR L p) ∧ PairIs L M p) :
    (coarsestStep L acc n = (none, 1) ∧ ∀ m ∈ M ++ [n], cntR L (prP m) < 2) ∨ ∃ p, coarsestStep L acc n = (some p, cntR L p) ∧ PairIs L (M ++ [n]) p := by
  have hc : cntP L n.1 n.2.tb = cntR L (prP n) := rfl
  unfold coarsestStep
  rw [hc]
  rcases h with ⟨rfl, hM⟩ | ⟨p, rfl, hp⟩
  · by_cases h2 : cntR L (prP n) < 2
    · rw [if_pos (.inl h2)]
      refine .inl ⟨rfl, fun m hm => ?_⟩
      rcases List.mem_append.1 hm with hm | hm
      · exact hM m hm
      · rw [List.mem_singleton.1 hm]; exact h2
    · rw [if_neg (by simp only; omega), if_pos (.inl (by simp only; omega))]
      refine .inr ⟨prP n, rfl, ⟨n, by simp, rfl⟩, by omega, fun m hm => ?_, fun m hm e => ?_⟩
      · rcases List.mem_append.1 hm with hm | hm
        · have := hM m hm; omega
        · rw [List.mem_singleton.1 hm]; exact Nat.le_refl _
      · rcases List.mem_append.1 hm with hm | hm
        · have := hM m hm; omega
        · rw [List.mem_singleton.1 hm]; exact pairLt_irr _
  · have h2 := hp.two
    by_cases h3 : cntR L (prP n) < cntR L p
    · rw [if_pos (.inr h3)]
      refine .inr ⟨p, rfl, ?_, hp.two, fun m hm => ?_, fun m hm e => ?_⟩
      · obtain ⟨m, hm, e⟩ := hp.from_; exact ⟨m, List.mem_append.2 (.inl hm), e⟩
      · rcases List.mem_append.1 hm with hm | hm
        · exact hp.most m hm
        · rw [List.mem_singleton.1 hm]; omega
      · rcases List.mem_append.1 hm with hm | hm
        · exact hp.least m hm e
        · rw [List.mem_singleton.1 hm] at e; omega
    · rw [if_neg (by simp only; omega)]
      by_cases h4 : cntR L p < cntR L (prP n) ∨ pairLt (prP n) p = true
      · rw [if_pos (by exact h4)]
        refine .inr ⟨prP n, rfl, ⟨n, by simp, rfl⟩, by omega, fun m hm => ?_, fun m hm e => ?_⟩
        · rcases List.mem_append.1 hm with hm | hm
          · have := hp.most m hm; omega
          · rw [List.mem_singleton.1 hm]; exact Nat.le_refl _
        · rcases List.mem_append.1 hm with hm | hm
          · have h5 := hp.most m hm
            rcases h4 with h4 | h4
            · omega
            · have h6 := hp.least m hm (by omega)
              cases h7 : pairLt (prP m) (prP n) with
              | false => rfl
              | true => rw [pairLt_tr h7 h4] at h6; cases h6
          · rw [List.mem_singleton.1 hm]; exact pairLt_irr _
      · rw [if_neg (by exact h4)]
        have h5 : ¬ cntR L p < cntR L (prP n) := fun h => h4 (.inl h)
        refine .inr ⟨p, rfl, ?_, hp.two, fun m hm => ?_, fun m hm e => ?_⟩
        · obtain ⟨m, hm, e⟩ := hp.from_; exact ⟨m, List.mem_append.2 (.inl hm), e⟩
        · rcases List.mem_append.1 hm with hm | hm
          · exact hp.most m hm
          · rw [List.mem_singleton.1 hm]; omega
        · rcases List.mem_append.1 hm with hm | hm
          · exact hp.least m hm e
          · rw [List.mem_singleton.1 hm]
            cases h7 : pairLt (prP n) p with
            | false => rfl
            | true => exact absurd (.inr h7) h4
theorem fold_is (L : List Nt) : ∀ (M N : List Nt) (acc : Option (Int × ByteArray) × Nat), ((acc = (none, 1) ∧ ∀ m ∈ M, cntR L (prP m) < 2) ∨ ∃ p, acc = (some p, cntR L p) ∧ PairIs L M p) →
    ((N.foldl (coarsestStep L) acc = (none, 1) ∧ ∀ m ∈ M ++ N, cntR L (prP m) < 2) ∨ ∃ p, N.foldl (coarsestStep L) acc = (some p, cntR L p) ∧ PairIs L (M ++ N) p)
  | M, [], acc, h => by simpa using h
  | M, n :: N, acc, h => by
    have := fold_is L (M ++ [n]) N _ (step_is L M acc n h)
    simpa using this
/-- Which pair coarsest tells. -/
theorem coarsest_is (L : List Nt) : (coarsestP L = none ∧ ∀ m ∈ L, cntR L (prP m) < 2) ∨ ∃ p, coarsestP L = some p ∧ PairIs L L p := by
  have h := fold_is L [] L (none, 1) (.inl ⟨rfl, by simp⟩)
  rw [List.nil_append] at h
  unfold coarsestP
  rcases h with ⟨h1, h2⟩ | ⟨p, h1, h2⟩
  · exact .inl ⟨by rw [h1], h2⟩
  · exact .inr ⟨p, by rw [h1], h2⟩
theorem pair_unique {L : List Nt} {p q : Int × ByteArray} (hp : PairIs L L p) (hq : PairIs L L q) : p = q := by
  obtain ⟨n, hn, en⟩ := hp.from_
  obtain ⟨m, hm, em⟩ := hq.from_
  have h1 := hp.most m hm
  have h2 := hq.most n hn
  rw [em] at h1
  rw [en] at h2
  have h3 := hp.least m hm (by rw [em]; omega)
  have h4 := hq.least n hn (by rw [en]; omega)
  rw [em] at h3
  rw [en] at h4
  exact pairLt_tri h4 h3
end Go.Proofs.YtnpeankmmojebaaGreatDoor

/- Layer 9: two pairs compared. -/
namespace Go.Proofs.YtnpeankmmojebaaGreatDoor
set_option maxRecDepth 100000
set_option maxRecDepth 100000
open Go.RowKit

def cmpPr (a b : Int × ByteArray) : Int := orP [cmpI a.1 b.1, cmpS a.2 b.2]
theorem cmpPr_lt (a b : Int × ByteArray) : decide (cmpPr a b < 0) = pairLt a b := by
  unfold cmpPr orP pairLt
  by_cases h : a.1 = b.1
  · have h0 := (cmpI_zero a.1 b.1).2 h
    rw [List.find?_cons_of_neg (by simpa using h0)]
    by_cases h2 : a.2 = b.2
    · have h3 := (cmpS_zero a.2 b.2).2 h2
      rw [List.find?_cons_of_neg (by simpa using h3)]
      rw [h2, klB_irrefl]
      simp [h]
    · have h3 : ¬ cmpS a.2 b.2 = 0 := fun e => h2 ((cmpS_zero _ _).1 e)
      rw [List.find?_cons_of_pos (by simpa using h3)]
      simp only [Option.getD_some]
      rw [cmpS_lt]
      simp [h]
  · have h0 : ¬ cmpI a.1 b.1 = 0 := fun e => h ((cmpI_zero _ _).1 e)
    rw [List.find?_cons_of_pos (by simpa using h0)]
    simp only [Option.getD_some]
    rw [cmpI_lt]
    simp [h]
theorem row_at {w : World} {g : Nat} {vs : Array Value} {e : TypeId} {xs : List Int} (h : w.heap[g]? = some (.cells vs e (0, 0))) (hv : vs.toList = numV xs) : ∀ j x, xs[j]? = some x → w.cell? ⟨g, j, none⟩ = some (.int .i64 x) := fun j x hx => by
  have := cell_of_row w g j _ _ _ h
  rw [this]
  have h2 : vs.toList[j]? = some (.int .i64 x) := by rw [hv]; simp [numV, hx]
  rw [Array.getElem?_toList] at h2
  exact h2
end Go.Proofs.YtnpeankmmojebaaGreatDoor
