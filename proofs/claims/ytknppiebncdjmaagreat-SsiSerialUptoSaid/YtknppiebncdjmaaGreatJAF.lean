import Derived.Test.YtknppiebncdjmaaGreatJAE
import Derived.Test.YtknppiebncdjmaaGreatJAC
import Derived.Laws.Cover1
/- Layer 9, plain lists: what Note keeps: nothing is forgotten, no more than the cap, none covers another one. -/
namespace Go.Proofs.YtknppiebncdjmaaGreat
set_option maxRecDepth 100000

/-- What a note is of, told by its pair. -/
theorem pr_is (n : Nt) (t : Int) (tb : ByteArray) : (decide (n.1 = t) && (n.2.tb.toList == tb.toList)) = decide (prP n = (t, tb)) := by
  rw [toList_beq8]
  unfold prP
  by_cases h1 : n.1 = t <;> by_cases h2 : n.2.tb = tb <;> simp [h1, h2]
theorem cntP_is (L : List Nt) (t : Int) (tb : ByteArray) : cntP L t tb = (L.filter fun n => decide (prP n = (t, tb))).length := by
  unfold cntP
  congr 1
  exact List.filter_congr fun n _ => pr_is n t tb
theorem coarseP_is (L : List Nt) (t : Int) (tb : ByteArray) : coarseP L t tb = (L.filter fun n => !decide (prP n = (t, tb))) ++ [(t, ⟨tb, 3, ⟨#[]⟩, ⟨#[]⟩⟩)] := by
  unfold coarseP
  congr 1
  exact List.filter_congr fun n _ => by rw [pr_is]
theorem filter_parts (L : List Nt) (f : Nt → Bool) : (L.filter f).length + (L.filter fun n => !f n).length = L.length := by
  induction L with
  | nil => rfl
  | cons n L ih =>
    cases h : f n <;> simp [h] <;> omega
theorem coarse_len (L : List Nt) (t : Int) (tb : ByteArray) : (coarseP L t tb).length + cntP L t tb = L.length + 1 := by
  rw [coarseP_is, cntP_is, List.length_append]
  have := filter_parts L fun n => decide (prP n = (t, tb))
  simp only [List.length_singleton]
  omega
/-- Notes that may be, of transactions from 1 on, none of which covers another one of its transaction. -/
structure Lean9 (L : List Nt) : Prop where
  may : ∀ n ∈ L, mayP n.2 = true ∧ 1 ≤ n.1
  lean : L.Pairwise fun a b => a.1 = b.1 → coversP a.2 b.2 = false ∧ coversP b.2 a.2 = false
theorem Lean9.nil : Lean9 [] := ⟨by simp, List.Pairwise.nil⟩
theorem Lean9.filter {L : List Nt} (h : Lean9 L) (f : Nt → Bool) : Lean9 (L.filter f) := ⟨fun n hn => h.may n (List.mem_filter.1 hn).1, h.lean.sublist List.filter_sublist⟩
theorem Lean9.add {L : List Nt} (h : Lean9 L) {n : Nt} (hm : mayP n.2 = true) (ht : 1 ≤ n.1) (hc : ∀ m ∈ L, m.1 = n.1 → coversP m.2 n.2 = false ∧ coversP n.2 m.2 = false) : Lean9 (L ++ [n]) := by
  refine ⟨fun m hm' => ?_, ?_⟩
  · rcases List.mem_append.1 hm' with h1 | h1
    · exact h.may m h1
    · rw [List.mem_singleton.1 h1]; exact ⟨hm, ht⟩
  · rw [List.pairwise_append]
    exact ⟨h.lean, List.pairwise_singleton _ _, fun a ha b hb e => by rw [List.mem_singleton.1 hb] at e ⊢; exact hc a ha e⟩
theorem may_table (tb : ByteArray) : mayP ⟨tb, 3, ⟨#[]⟩, ⟨#[]⟩⟩ = true := by
  unfold mayP
  simp [isE_is]
theorem Lean9.coarse {L : List Nt} (h : Lean9 L) {p : Int × ByteArray} (hp : ∃ n ∈ L, prP n = p) : Lean9 (coarseP L p.1 p.2) := by
  rw [coarseP_is]
  obtain ⟨n, hn, e⟩ := hp
  refine (h.filter _).add (may_table _) (by rw [← e]; exact (h.may n hn).2) fun m hm e2 => ?_
  have h1 := (List.mem_filter.1 hm).2
  have hne : m.2.tb ≠ p.2 := by
    intro e3
    simp only [Bool.not_eq_true', decide_eq_false_iff_not] at h1
    exact h1 (Prod.ext e2 e3)
  constructor
  · cases h2 : coversP m.2 ⟨p.2, 3, ⟨#[]⟩, ⟨#[]⟩⟩ with
    | false => rfl
    | true => exact absurd (covers_table h2) hne
  · cases h2 : coversP ⟨p.2, 3, ⟨#[]⟩, ⟨#[]⟩⟩ m.2 with
    | false => rfl
    | true => exact absurd (covers_table h2).symm hne
/-- All that a list holds of reads, the other one holds too. -/
def Holds9 (L M : List Nt) : Prop := ∀ n ∈ L, ∀ t k, hasP n.2 t k = true → ∃ m ∈ M, m.1 = n.1 ∧ hasP m.2 t k = true
theorem Holds9.refl (L : List Nt) : Holds9 L L := fun n hn t k h => ⟨n, hn, rfl, h⟩
theorem Holds9.trans {L M N : List Nt} (h1 : Holds9 L M) (h2 : Holds9 M N) : Holds9 L N := fun n hn t k h => by
  obtain ⟨m, hm, e, hh⟩ := h1 n hn t k h
  obtain ⟨x, hx, e2, hh2⟩ := h2 m hm t k hh
  exact ⟨x, hx, e2.trans e, hh2⟩
/-- Nobody is there who was not. -/
def From9 (L M : List Nt) : Prop := ∀ m ∈ M, ∃ n ∈ L, n.1 = m.1
theorem From9.refl (L : List Nt) : From9 L L := fun n hn => ⟨n, hn, rfl⟩
theorem From9.trans {L M N : List Nt} (h1 : From9 L M) (h2 : From9 M N) : From9 L N := fun x hx => by
  obtain ⟨m, hm, e⟩ := h2 x hx
  obtain ⟨n, hn, e2⟩ := h1 m hm
  exact ⟨n, hn, e2.trans e⟩
theorem coarse_holds (L : List Nt) (p : Int × ByteArray) : Holds9 L (coarseP L p.1 p.2) := fun n hn t k h => by
  rw [coarseP_is]
  by_cases e : prP n = (p.1, p.2)
  · refine ⟨(p.1, ⟨p.2, 3, ⟨#[]⟩, ⟨#[]⟩⟩), by simp, (congrArg Prod.fst e).symm, ?_⟩
    have ht : n.2.tb = p.2 := congrArg Prod.snd e
    unfold hasP at h ⊢
    simp only [Bool.and_eq_true] at h ⊢
    refine ⟨by rw [← ht]; exact h.1, ?_⟩
    rw [if_neg (by decide), if_neg (by decide)]
  · exact ⟨n, List.mem_append.2 (.inl (List.mem_filter.2 ⟨hn, by simpa using e⟩)), rfl, h⟩
theorem coarse_from {L : List Nt} {p : Int × ByteArray} (hp : ∃ n ∈ L, prP n = p) : From9 L (coarseP L p.1 p.2) := fun m hm => by
  rw [coarseP_is] at hm
  rcases List.mem_append.1 hm with h | h
  · exact ⟨m, (List.mem_filter.1 h).1, rfl⟩
  · rw [List.mem_singleton.1 h]
    obtain ⟨n, hn, e⟩ := hp
    exact ⟨n, hn, (congrArg Prod.fst e : (prP n).1 = p.1)⟩
theorem shrink_some {most : Nat} : ∀ (f : Nat) (L M : List Nt), Lean9 L → shrinkP most f L = some M → M.length ≤ most ∧ Lean9 M ∧ Holds9 L M ∧ From9 L M
  | 0, L, M, hl, h => by
    unfold shrinkP at h
    split at h
    · rename_i hle; cases h; exact ⟨hle, hl, Holds9.refl _, From9.refl _⟩
    · cases h
  | f + 1, L, M, hl, h => by
    unfold shrinkP at h
    split at h
    · rename_i hle; cases h; exact ⟨hle, hl, Holds9.refl _, From9.refl _⟩
    · rcases coarsest_is L with ⟨h1, -⟩ | ⟨p, h1, hp⟩
      · rw [h1] at h; cases h
      · rw [h1] at h
        obtain ⟨a, b, c, d⟩ := shrink_some f _ M (hl.coarse hp.from_) h
        exact ⟨a, b, (coarse_holds L p).trans c, (coarse_from hp.from_).trans d⟩
theorem add_lean {L : List Nt} (h : Lean9 L) {t : Int} {x : Rd} (ht : 1 ≤ t) (hm : mayP x = true) (hc : (L.any fun n => decide (n.1 = t) && coversP n.2 x) = false) : Lean9 (addP L t x) := by
  unfold addP
  refine (h.filter _).add hm ht fun m hm' e => ?_
  obtain ⟨h1, h2⟩ := List.mem_filter.1 hm'
  have h3 := List.any_eq_false.1 hc m h1
  simp only at e
  simp only [e, decide_true, Bool.true_and, Bool.not_eq_true', Bool.not_eq_true] at h2 h3
  exact ⟨h3, h2⟩
theorem add_holds (L : List Nt) (t : Int) (x : Rd) : Holds9 L (addP L t x) := fun n hn tb k h => by
  unfold addP
  cases hc : decide (n.1 = t) && coversP x n.2 with
  | false => exact ⟨n, List.mem_append.2 (.inl (List.mem_filter.2 ⟨hn, by rw [hc]; rfl⟩)), rfl, h⟩
  | true =>
    simp only [Bool.and_eq_true, decide_eq_true_eq] at hc
    exact ⟨(t, x), by simp, hc.1.symm, covers_has hc.2 h⟩
/-- Notes as they are kept. -/
structure Inv9 (most : Nat) (L : List Nt) : Prop where
  ln : Lean9 L
  cap : L.length ≤ most
theorem Inv9.nil (most : Nat) : Inv9 most [] := ⟨Lean9.nil, Nat.zero_le _⟩
/-- What Note keeps, whatever it answers. -/
theorem note_keeps {most : Nat} {L : List Nt} (h : Inv9 most L) (t : Int) (x : Rd) :
    Inv9 most (noteP most L t x).2 ∧ Holds9 L (noteP most L t x).2 ∧ (∀ m ∈ (noteP most L t x).2, m.1 = t ∧ (noteP most L t x).1 = 0 ∨ ∃ n ∈ L, n.1 = m.1) ∧
      ((noteP most L t x).1 = 0 → 1 ≤ t ∧ mayP x = true ∧ ∀ tb k, hasP x tb k = true → ∃ m ∈ (noteP most L t x).2, m.1 = t ∧ hasP m.2 tb k = true) := by
  have stay : ∀ m ∈ L, m.1 = t ∧ (0 : Int) = 0 ∨ ∃ n ∈ L, n.1 = m.1 := fun m hm => .inr ⟨m, hm, rfl⟩
  unfold noteP
  by_cases h1 : t < 1 ∨ mayP x = false
  · rw [if_pos h1]
    exact ⟨h, Holds9.refl _, fun m hm => .inr ⟨m, hm, rfl⟩, fun e => by cases e⟩
  · rw [if_neg h1]
    have ht : 1 ≤ t := by omega
    have hm : mayP x = true := by
      cases e : mayP x with
      | true => rfl
      | false => exact absurd (.inr e) h1
    cases h2 : L.any fun n => decide (n.1 = t) && coversP n.2 x with
    | true =>
      rw [if_pos rfl]
      refine ⟨h, Holds9.refl _, fun m hm => .inr ⟨m, hm, rfl⟩, fun _ => ⟨ht, hm, fun tb k hk => ?_⟩⟩
      obtain ⟨n, hn, hc⟩ := List.any_eq_true.1 h2
      simp only [Bool.and_eq_true, decide_eq_true_eq] at hc
      exact ⟨n, hn, hc.1, covers_has hc.2 hk⟩
    | false =>
      rw [if_neg (by simp)]
      have hl := add_lean h.ln ht hm h2
      cases h3 : shrinkP most (L.length + 1) (addP L t x) with
      | none => exact ⟨h, Holds9.refl _, fun m hm => .inr ⟨m, hm, rfl⟩, fun e => by cases e⟩
      | some M =>
        obtain ⟨a, b, c, d⟩ := shrink_some _ _ M hl h3
        refine ⟨⟨b, a⟩, (add_holds L t x).trans c, fun m hm' => ?_, fun _ => ⟨ht, hm, fun tb k hk => c (t, x) (by simp [addP]) tb k hk⟩⟩
        obtain ⟨n, hn, e⟩ := d m hm'
        unfold addP at hn
        rcases List.mem_append.1 hn with hn | hn
        · exact .inr ⟨n, (List.mem_filter.1 hn).1, e⟩
        · rw [List.mem_singleton.1 hn] at e
          exact .inl ⟨e.symm, rfl⟩
theorem drop_keeps {most : Nat} {L : List Nt} (h : Inv9 most L) (t : Int) : Inv9 most (dropP L t) := ⟨h.ln.filter _, Nat.le_trans (List.length_filter_le _ _) h.cap⟩
end Go.Proofs.YtknppiebncdjmaaGreat

/- Layer 9: the reference's May, has, ends, Covers. -/
namespace Go.Proofs.YtknppiebncdjmaaGreat
set_option maxRecDepth 100000
set_option maxRecDepth 100000
open Go.RowKit

def rdC (x : Rd) : List Value := [.string x.tb, .int .i64 x.kd, .string x.lo, .string x.hi]
def rdV (x : Rd) : Value := .agg #[.string x.tb, .int .i64 x.kd, .string x.lo, .string x.hi]
/-- A note that came in, in its own block. -/
theorem rd_box (w : World) (x : Rd) : (w.alloc (.cells #[.string x.tb, .int .i64 x.kd, .string x.lo, .string x.hi] 114)).heap[w.heap.size]? = some (.cells #[.string x.tb, .int .i64 x.kd, .string x.lo, .string x.hi] 114 (0, 0)) := heap_alloc_new _ _
theorem below_alloc9 (w : World) (o : Obj) : Below w.heap.size w (w.alloc o) := (Below.refl _ _).alloc (Nat.le_refl _) o
theorem below_drewN9 (w : World) (n : Nat) : Below w.heap.size w (w.drewN n) := ⟨rfl, rfl, rfl, Nat.le_refl _, fun _ _ => rfl⟩

theorem may_1 (tb lo hi : ByteArray) : mayP ⟨tb, 1, lo, hi⟩ = (hi.toList == []) := rfl
theorem may_2 (tb lo hi : ByteArray) : mayP ⟨tb, 2, lo, hi⟩ = ((hi.toList == []) || !(Op.bytesLess hi.toList lo.toList || hi.toList == lo.toList)) := by rw [← bl_le8 hi lo]; rfl
theorem may_3 (tb lo hi : ByteArray) : mayP ⟨tb, 3, lo, hi⟩ = ((lo.toList == []) && (hi.toList == [])) := rfl
theorem ends_2 (tb lo hi : ByteArray) : endsP ⟨tb, 2, lo, hi⟩ = (lo, hi, !(hi.toList == [])) := rfl
end Go.Proofs.YtknppiebncdjmaaGreat

/- Layer 9: the reference's has, Covers; notes in a list: count. -/
namespace Go.Proofs.YtknppiebncdjmaaGreat
set_option maxRecDepth 100000
set_option maxRecDepth 100000
open Go.RowKit

end Go.Proofs.YtknppiebncdjmaaGreat

/- Layer 9: notes in a list in memory; the reference's count and coarse. -/
namespace Go.Proofs.YtknppiebncdjmaaGreat
set_option maxRecDepth 100000
set_option maxRecDepth 100000
open Go.RowKit

def ntC (n : Nt) : List Value := [.int .i64 n.1, .string n.2.tb, .int .i64 n.2.kd, .string n.2.lo, .string n.2.hi]
def cellsT (L : List Nt) : List Value := L.flatMap ntC
def seT : SEl := ⟨30, 222, .agg #[.int .i64 0, .string ⟨#[]⟩, .int .i64 0, .string ⟨#[]⟩, .string ⟨#[]⟩], 5, 64⟩
theorem cellsT_cons (p : Nt) (ps : List Nt) : cellsT (p :: ps) = Value.int .i64 p.1 :: Value.string p.2.tb :: Value.int .i64 p.2.kd :: Value.string p.2.lo :: Value.string p.2.hi :: cellsT ps := by simp [cellsT, ntC]
theorem cellsT_at : ∀ (ps : List Nt) (j : Nat) (p : Nt), ps[j]? = some p → (cellsT ps)[5 * j]? = some (.int .i64 p.1) ∧ (cellsT ps)[5 * j + 1]? = some (.string p.2.tb) ∧ (cellsT ps)[5 * j + 2]? = some (.int .i64 p.2.kd) ∧ (cellsT ps)[5 * j + 3]? = some (.string p.2.lo) ∧ (cellsT ps)[5 * j + 4]? = some (.string p.2.hi)
  | [], _, _, h => by cases h
  | q :: ps, 0, p, h => by cases h; rw [cellsT_cons]; exact ⟨rfl, rfl, rfl, rfl, rfl⟩
  | q :: ps, j + 1, p, h => by
    have := cellsT_at ps j p h
    rw [cellsT_cons]
    exact this
/-- The j-th note of a list. -/
theorem SB.note {w : World} {A : Option Addr} {L : List Nt} (h : SB w A (5 * L.length) (cellsT L)) {j : Nat} {p : Nt} (hp : L[j]? = some p) : ∃ g o, A = some ⟨g, o, none⟩ ∧ w.cell? ⟨g, o + j * 5, none⟩ = some (.int .i64 p.1) ∧ w.cell? ⟨g, o + j * 5 + 1, none⟩ = some (.string p.2.tb) ∧ w.cell? ⟨g, o + j * 5 + 2, none⟩ = some (.int .i64 p.2.kd) ∧ w.cell? ⟨g, o + j * 5 + 3, none⟩ = some (.string p.2.lo) ∧ w.cell? ⟨g, o + j * 5 + 4, none⟩ = some (.string p.2.hi) := by
  obtain ⟨a0, a1, a2, a3, a4⟩ := cellsT_at L j p hp
  have hlt := (List.getElem?_eq_some_iff.1 hp).1
  obtain ⟨g, o, e, hc⟩ := h.cell (by omega)
  refine ⟨g, o, e, ?_, ?_, ?_, ?_, ?_⟩
  · have := hc _ _ a0; rwa [Nat.mul_comm] at this
  · have := hc _ _ a1; rwa [Nat.mul_comm, ← Nat.add_assoc] at this
  · have := hc _ _ a2; rwa [Nat.mul_comm, ← Nat.add_assoc] at this
  · have := hc _ _ a3; rwa [Nat.mul_comm, ← Nat.add_assoc] at this
  · have := hc _ _ a4; rwa [Nat.mul_comm, ← Nat.add_assoc] at this
end Go.Proofs.YtknppiebncdjmaaGreat
