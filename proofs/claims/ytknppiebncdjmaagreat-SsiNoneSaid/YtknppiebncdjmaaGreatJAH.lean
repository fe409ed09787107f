import Derived.Test.YtknppiebncdjmaaGreatJAG
import Derived.Test.YtknppiebncdjmaaGreatSRow
import Derived.Laws.Cover1
/- Layer 9, plain lists: what Note keeps: nothing is forgotten, no more than the cap, none covers another one. -/
namespace Go.Proofs.YtknppiebncdjmaaGreat
set_option maxRecDepth 100000

theorem cnt_pos {L : List Nt} {n : Nt} (h : n ∈ L) : 1 ≤ cntR L (prP n) := by
  unfold cntR cntP prP
  exact List.length_pos_of_mem (List.mem_filter.2 ⟨h, by simp⟩)
/-- What a note is of, told by its pair. -/
theorem pr_is (n : Nt) (t : Int) (tb : ByteArray) : (decide (n.1 = t) && (n.2.tb.toList == tb.toList)) = decide (prP n = (t, tb)) := by
  rw [toList_beq8]
  unfold prP
  by_cases h1 : n.1 = t <;> by_cases h2 : n.2.tb = tb <;> simp [h1, h2]
theorem cntP_is (L : List Nt) (t : Int) (tb : ByteArray) : cntP L t tb = (L.filter fun n => decide (prP n = (t, tb))).length := by
  unfold cntP
  congr 1
  exact List.filter_congr fun n _ => pr_is n t tb
theorem coarseP_is (L : List Nt) (t : Int) (tb : ByteArray) : coarseP L t tb = (L.filter fun n => !decide (prP n = (t, tb))) ++ [(t, ⟨tb, 3, ⟨#[]⟩, ⟨#[]⟩⟩)] := by
  unfold coarseP
  congr 1
  exact List.filter_congr fun n _ => by rw [pr_is]
theorem filter_parts (L : List Nt) (f : Nt → Bool) : (L.filter f).length + (L.filter fun n => !f n).length = L.length := by
  induction L with
  | nil => rfl
  | cons n L ih =>
    cases h : f n <;> simp [h] <;> omega
theorem coarse_len (L : List Nt) (t : Int) (tb : ByteArray) : (coarseP L t tb).length + cntP L t tb = L.length + 1 := by
  rw [coarseP_is, cntP_is, List.length_append]
  have := filter_parts L fun n => decide (prP n = (t, tb))
  simp only [List.length_singleton]
  omega
/-- Notes that may be, of transactions from 1 on, none of which covers another one of its transaction. -/
structure Lean9 (L : List Nt) : Prop where
  may : ∀ n ∈ L, mayP n.2 = true ∧ 1 ≤ n.1
  lean : L.Pairwise fun a b => a.1 = b.1 → coversP a.2 b.2 = false ∧ coversP b.2 a.2 = false
theorem Lean9.nil : Lean9 [] := ⟨by simp, List.Pairwise.nil⟩
theorem Lean9.filter {L : List Nt} (h : Lean9 L) (f : Nt → Bool) : Lean9 (L.filter f) := ⟨fun n hn => h.may n (List.mem_filter.1 hn).1, h.lean.sublist List.filter_sublist⟩
theorem Lean9.add {L : List Nt} (h : Lean9 L) {n : Nt} (hm : mayP n.2 = true) (ht : 1 ≤ n.1) (hc : ∀ m ∈ L, m.1 = n.1 → coversP m.2 n.2 = false ∧ coversP n.2 m.2 = false) : Lean9 (L ++ [n]) := by
  refine ⟨fun m hm' => ?_, ?_⟩
  · rcases List.mem_append.1 hm' with h1 | h1
    · exact h.may m h1
    · rw [List.mem_singleton.1 h1]; exact ⟨hm, ht⟩
  · rw [List.pairwise_append]
    exact ⟨h.lean, List.pairwise_singleton _ _, fun a ha b hb e => by rw [List.mem_singleton.1 hb] at e ⊢; exact hc a ha e⟩
theorem may_table (tb : ByteArray) : mayP ⟨tb, 3, ⟨#[]⟩, ⟨#[]⟩⟩ = true := by
  unfold mayP
  simp [isE_is]
theorem Lean9.coarse {L : List Nt} (h : Lean9 L) {p : Int × ByteArray} (hp : ∃ n ∈ L, prP n = p) : Lean9 (coarseP L p.1 p.2) := by
  rw [coarseP_is]
  obtain ⟨n, hn, e⟩ := hp
  refine (h.filter _).add (may_table _) (by rw [← e]; exact (h.may n hn).2) fun m hm e2 => ?_
  have h1 := (List.mem_filter.1 hm).2
  have hne : m.2.tb ≠ p.2 := by
    intro e3
    simp only [Bool.not_eq_true', decide_eq_false_iff_not] at h1
    exact h1 (Prod.ext e2 e3)
  constructor
  · cases h2 : coversP m.2 ⟨p.2, 3, ⟨#[]⟩, ⟨#[]⟩⟩ with
    | false => rfl
    | true => exact absurd (covers_table h2) hne
  · cases h2 : coversP ⟨p.2, 3, ⟨#[]⟩, ⟨#[]⟩⟩ m.2 with
    | false => rfl
    | true => exact absurd (covers_table h2).symm hne
/-- All that a list holds of reads, the other one holds too. -/
def Holds9 (L M : List Nt) : Prop := ∀ n ∈ L, ∀ t k, hasP n.2 t k = true → ∃ m ∈ M, m.1 = n.1 ∧ hasP m.2 t k = true
theorem Holds9.refl (L : List Nt) : Holds9 L L := fun n hn t k h => ⟨n, hn, rfl, h⟩
theorem Holds9.trans {L M N : List Nt} (h1 : Holds9 L M) (h2 : Holds9 M N) : Holds9 L N := fun n hn t k h => by
  obtain ⟨m, hm, e, hh⟩ := h1 n hn t k h
  obtain ⟨x, hx, e2, hh2⟩ := h2 m hm t k hh
  exact ⟨x, hx, e2.trans e, hh2⟩
/-- Nobody is there who was not. -/
def From9 (L M : List Nt) : Prop := ∀ m ∈ M, ∃ n ∈ L, n.1 = m.1
theorem From9.refl (L : List Nt) : From9 L L := fun n hn => ⟨n, hn, rfl⟩
theorem From9.trans {L M N : List Nt} (h1 : From9 L M) (h2 : From9 M N) : From9 L N := fun x hx => by
  obtain ⟨m, hm, e⟩ := h2 x hx
  obtain ⟨n, hn, e2⟩ := h1 m hm
  exact ⟨n, hn, e2.trans e⟩
theorem coarse_holds (L : List Nt) (p : Int × ByteArray) : Holds9 L (coarseP L p.1 p.2) := fun n hn t k h => by
  rw [coarseP_is]
  by_cases e : prP n = (p.1, p.2)
  · refine ⟨(p.1, ⟨p.2, 3, ⟨#[]⟩, ⟨#[]⟩⟩), by simp, (congrArg Prod.fst e).symm, ?_⟩
    have ht : n.2.tb = p.2 := congrArg Prod.snd e
    unfold hasP at h ⊢
    simp only [Bool.and_eq_true] at h ⊢
    refine ⟨by rw [← ht]; exact h.1, ?_⟩
    rw [if_neg (by decide), if_neg (by decide)]
  · exact ⟨n, List.mem_append.2 (.inl (List.mem_filter.2 ⟨hn, by simpa using e⟩)), rfl, h⟩
theorem coarse_from {L : List Nt} {p : Int × ByteArray} (hp : ∃ n ∈ L, prP n = p) : From9 L (coarseP L p.1 p.2) := fun m hm => by
  rw [coarseP_is] at hm
  rcases List.mem_append.1 hm with h | h
  · exact ⟨m, (List.mem_filter.1 h).1, rfl⟩
  · rw [List.mem_singleton.1 h]
    obtain ⟨n, hn, e⟩ := hp
    exact ⟨n, hn, (congrArg Prod.fst e : (prP n).1 = p.1)⟩
theorem shrink_some {most : Nat} : ∀ (f : Nat) (L M : List Nt), Lean9 L → shrinkP most f L = some M → M.length ≤ most ∧ Lean9 M ∧ Holds9 L M ∧ From9 L M
  | 0, L, M, hl, h => by
    unfold shrinkP at h
    split at h
    · rename_i hle; cases h; exact ⟨hle, hl, Holds9.refl _, From9.refl _⟩
    · cases h
  | f + 1, L, M, hl, h => by
    unfold shrinkP at h
    split at h
    · rename_i hle; cases h; exact ⟨hle, hl, Holds9.refl _, From9.refl _⟩
    · rcases coarsest_is L with ⟨h1, -⟩ | ⟨p, h1, hp⟩
      · rw [h1] at h; cases h
      · rw [h1] at h
        obtain ⟨a, b, c, d⟩ := shrink_some f _ M (hl.coarse hp.from_) h
        exact ⟨a, b, (coarse_holds L p).trans c, (coarse_from hp.from_).trans d⟩
theorem add_lean {L : List Nt} (h : Lean9 L) {t : Int} {x : Rd} (ht : 1 ≤ t) (hm : mayP x = true) (hc : (L.any fun n => decide (n.1 = t) && coversP n.2 x) = false) : Lean9 (addP L t x) := by
  unfold addP
  refine (h.filter _).add hm ht fun m hm' e => ?_
  obtain ⟨h1, h2⟩ := List.mem_filter.1 hm'
  have h3 := List.any_eq_false.1 hc m h1
  simp only at e
  simp only [e, decide_true, Bool.true_and, Bool.not_eq_true', Bool.not_eq_true] at h2 h3
  exact ⟨h3, h2⟩
theorem add_holds (L : List Nt) (t : Int) (x : Rd) : Holds9 L (addP L t x) := fun n hn tb k h => by
  unfold addP
  cases hc : decide (n.1 = t) && coversP x n.2 with
  | false => exact ⟨n, List.mem_append.2 (.inl (List.mem_filter.2 ⟨hn, by rw [hc]; rfl⟩)), rfl, h⟩
  | true =>
    simp only [Bool.and_eq_true, decide_eq_true_eq] at hc
    exact ⟨(t, x), by simp, hc.1.symm, covers_has hc.2 h⟩
/-- Notes as they are kept. -/
structure Inv9 (most : Nat) (L : List Nt) : Prop where
  ln : Lean9 L
  cap : L.length ≤ most
theorem Inv9.nil (most : Nat) : Inv9 most [] := ⟨Lean9.nil, Nat.zero_le _⟩
/-- What Note keeps, whatever it answers. -/
theorem note_keeps {most : Nat} {L : List Nt} (h : Inv9 most L) (t : Int) (x : Rd) :
    Inv9 most (noteP most L t x).2 ∧ Holds9 L (noteP most L t x).2 ∧ (∀ m ∈ (noteP most L t x).2, m.1 = t ∧ (noteP most L t x).1 = 0 ∨ ∃ n ∈ L, n.1 = m.1) ∧
      ((noteP most L t x).1 = 0 → 1 ≤ t ∧ mayP x = true ∧ ∀ tb k, hasP x tb k = true → ∃ m ∈ (noteP most L t x).2, m.1 = t ∧ hasP m.2 tb k = true) := by
  have stay : ∀ m ∈ L, m.1 = t ∧ (0 : Int) = 0 ∨ ∃ n ∈ L, n.1 = m.1 := fun m hm => .inr ⟨m, hm, rfl⟩
  unfold noteP
  by_cases h1 : t < 1 ∨ mayP x = false
  · rw [if_pos h1]
    exact ⟨h, Holds9.refl _, fun m hm => .inr ⟨m, hm, rfl⟩, fun e => by cases e⟩
  · rw [if_neg h1]
    have ht : 1 ≤ t := by omega
    have hm : mayP x = true := by
      cases e : mayP x with
      | true => rfl
      | false => exact absurd (.inr e) h1
    cases h2 : L.any fun n => decide (n.1 = t) && coversP n.2 x with
    | true =>
      rw [if_pos rfl]
      refine ⟨h, Holds9.refl _, fun m hm => .inr ⟨m, hm, rfl⟩, fun _ => ⟨ht, hm, fun tb k hk => ?_⟩⟩
      obtain ⟨n, hn, hc⟩ := List.any_eq_true.1 h2
      simp only [Bool.and_eq_true, decide_eq_true_eq] at hc
      exact ⟨n, hn, hc.1, covers_has hc.2 hk⟩
    | false =>
      rw [if_neg (by simp)]
      have hl := add_lean h.ln ht hm h2
      cases h3 : shrinkP most (L.length + 1) (addP L t x) with
      | none => exact ⟨h, Holds9.refl _, fun m hm => .inr ⟨m, hm, rfl⟩, fun e => by cases e⟩
      | some M =>
        obtain ⟨a, b, c, d⟩ := shrink_some _ _ M hl h3
        refine ⟨⟨b, a⟩, (add_holds L t x).trans c, fun m hm' => ?_, fun _ => ⟨ht, hm, fun tb k hk => c (t, x) (by simp [addP]) tb k hk⟩⟩
        obtain ⟨n, hn, e⟩ := d m hm'
        unfold addP at hn
        rcases List.mem_append.1 hn with hn | hn
        · exact .inr ⟨n, (List.mem_filter.1 hn).1, e⟩
        · rw [List.mem_singleton.1 hn] at e
          exact .inl ⟨e.symm, rfl⟩
theorem drop_keeps {most : Nat} {L : List Nt} (h : Inv9 most L) (t : Int) : Inv9 most (dropP L t) := ⟨h.ln.filter _, Nat.le_trans (List.length_filter_le _ _) h.cap⟩
/-- A note that may be always finds room in an empty book. -/
theorem note_first {most : Nat} (hm : 1 ≤ most) {t : Int} {x : Rd} (ht : 1 ≤ t) (hx : mayP x = true) : noteP most [] t x = (0, [(t, x)]) := by
  unfold noteP
  rw [if_neg (by rw [hx]; simp; omega)]
  have : shrinkP most (0 + 1) [(t, x)] = some [(t, x)] := by
    unfold shrinkP
    rw [if_pos (by simpa using hm)]
  simp [addP, this]
end Go.Proofs.YtknppiebncdjmaaGreat

/- Layer 9: the reference's May, has, ends, Covers. -/
namespace Go.Proofs.YtknppiebncdjmaaGreat
set_option maxRecDepth 100000
set_option maxRecDepth 100000
open Go.RowKit

def rdC (x : Rd) : List Value := [.string x.tb, .int .i64 x.kd, .string x.lo, .string x.hi]
def rdV (x : Rd) : Value := .agg #[.string x.tb, .int .i64 x.kd, .string x.lo, .string x.hi]
/-- A note that came in, in its own block. -/
theorem rd_box (w : World) (x : Rd) : (w.alloc (.cells #[.string x.tb, .int .i64 x.kd, .string x.lo, .string x.hi] 114)).heap[w.heap.size]? = some (.cells #[.string x.tb, .int .i64 x.kd, .string x.lo, .string x.hi] 114 (0, 0)) := heap_alloc_new _ _
theorem below_alloc9 (w : World) (o : Obj) : Below w.heap.size w (w.alloc o) := (Below.refl _ _).alloc (Nat.le_refl _) o
theorem below_drewN9 (w : World) (n : Nat) : Below w.heap.size w (w.drewN n) := ⟨rfl, rfl, rfl, Nat.le_refl _, fun _ _ => rfl⟩

theorem may_1 (tb lo hi : ByteArray) : mayP ⟨tb, 1, lo, hi⟩ = (hi.toList == []) := rfl
theorem may_2 (tb lo hi : ByteArray) : mayP ⟨tb, 2, lo, hi⟩ = ((hi.toList == []) || !(Op.bytesLess hi.toList lo.toList || hi.toList == lo.toList)) := by rw [← bl_le8 hi lo]; rfl
theorem may_3 (tb lo hi : ByteArray) : mayP ⟨tb, 3, lo, hi⟩ = ((lo.toList == []) && (hi.toList == [])) := rfl
theorem ends_2 (tb lo hi : ByteArray) : endsP ⟨tb, 2, lo, hi⟩ = (lo, hi, !(hi.toList == [])) := rfl
set_option maxHeartbeats 4000000 in
theorem wrMay (w : World) (x : Rd) : Calls Tryz.prog 186 #[rdV x] w fun e w' => e = .returned (.bool (mayP x)) ∧ Below w.heap.size w w' := by
  obtain ⟨tb, kd, lo, hi⟩ := x
  obtain ⟨W, hW⟩ : ∃ W, w.alloc (.cells #[.string tb, .int .i64 kd, .string lo, .string hi] 114) = W := ⟨_, rfl⟩
  have HW := Lib.hid hW
  have HB := Lib.hid (show Below w.heap.size w W by rw [← hW]; exact below_alloc9 _ _)
  have q := rd_box w ⟨tb, kd, lo, hi⟩
  rw [hW] at q
  have x1 : W.cell? ⟨w.heap.size, 1, none⟩ = some (.int .i64 kd) := cell_of_row _ _ 1 _ _ _ q
  have x2 : W.cell? ⟨w.heap.size, 2, none⟩ = some (.string lo) := cell_of_row _ _ 2 _ _ _ q
  have x3 : W.cell? ⟨w.heap.size, 3, none⟩ = some (.string hi) := cell_of_row _ _ 3 _ _ _ q
  clear q hW
  unfold rdV
  have HE := Lib.hid (rfl : mayP ⟨tb, kd, lo, hi⟩ = mayP ⟨tb, kd, lo, hi⟩)
  by_cases k1 : kd = 1
  · subst k1
    cases e1 : (hi.toList == [])
    all_goals
      have HM := Lib.hid (show mayP ⟨tb, 1, lo, hi⟩ = _ by rw [may_1, e1])
      go_enter Tryz.func186, Tryz.ntmps186
      go_upto_region 1 with fail
      rw [HW.out]
      go_wp2
      go_ret
      exact ⟨by rw [HM.out] <;> rfl, HB.out⟩
  · have k1' : (kd == 1) = false := by simpa using k1
    by_cases k2 : kd = 2
    · subst k2
      cases e1 : (hi.toList == []) <;> cases e2 : Op.bytesLess hi.toList lo.toList <;> cases e3 : (hi.toList == lo.toList)
      all_goals
        have HM := Lib.hid (show mayP ⟨tb, 2, lo, hi⟩ = _ by rw [may_2, e1, e2, e3])
        go_enter Tryz.func186, Tryz.ntmps186
        go_upto_region 1 with fail
        rw [HW.out]
        go_wp2
        go_ret
        exact ⟨by rw [HM.out] <;> rfl, HB.out⟩
    · have k2' : (kd == 2) = false := by simpa using k2
      by_cases k3 : kd = 3
      · subst k3
        cases e1 : (lo.toList == []) <;> cases e2 : (hi.toList == [])
        all_goals
          have HM := Lib.hid (show mayP ⟨tb, 3, lo, hi⟩ = _ by rw [may_3, e1, e2])
          go_enter Tryz.func186, Tryz.ntmps186
          go_upto_region 1 with fail
          rw [HW.out]
          go_wp2
          go_ret
          exact ⟨by rw [HM.out] <;> rfl, HB.out⟩
      · have k3' : (kd == 3) = false := by simpa using k3
        have HM := Lib.hid (show mayP ⟨tb, kd, lo, hi⟩ = false by unfold mayP; rw [if_neg k1, if_neg k2, if_neg k3])
        clear k1 k2 k3
        go_enter Tryz.func186, Tryz.ntmps186
        go_upto_region 1 with fail
        rw [HW.out]
        go_wp2
        go_ret
        exact ⟨by rw [HM.out] <;> rfl, HB.out⟩
set_option maxHeartbeats 4000000 in
theorem wrEnds (w : World) (x : Rd) (hz : x.lo.size ≤ 140737488355328) : Calls Tryz.prog 210 #[rdV x] w fun e w' => e = .returned (.tuple #[.string (endsP x).1, .string (endsP x).2.1, .bool (endsP x).2.2]) ∧ Below w.heap.size w w' := by
  obtain ⟨tb, kd, lo, hi⟩ := x
  dsimp only at hz
  obtain ⟨W, hW⟩ : ∃ W, w.alloc (.cells #[.string tb, .int .i64 kd, .string lo, .string hi] 114) = W := ⟨_, rfl⟩
  have HW := Lib.hid hW
  have HB := Lib.hid (show Below w.heap.size w W by rw [← hW]; exact below_alloc9 _ _)
  have q := rd_box w ⟨tb, kd, lo, hi⟩
  rw [hW] at q
  have x1 : W.cell? ⟨w.heap.size, 1, none⟩ = some (.int .i64 kd) := cell_of_row _ _ 1 _ _ _ q
  have x2 : W.cell? ⟨w.heap.size, 2, none⟩ = some (.string lo) := cell_of_row _ _ 2 _ _ _ q
  have x3 : W.cell? ⟨w.heap.size, 3, none⟩ = some (.string hi) := cell_of_row _ _ 3 _ _ _ q
  clear q hW
  unfold rdV
  by_cases k1 : kd = 1
  · subst k1
    have HM := Lib.hid (show endsP ⟨tb, 1, lo, hi⟩ = (lo, lo ++ ⟨#[0]⟩, true) from rfl)
    have hs : ¬ 9223372036854775807 < lo.size + 1 := by omega
    go_enter Tryz.func210, Tryz.ntmps210
    go_upto_region 3 with fail
    rw [HW.out]
    go_quiet (fail)
    go_wp2
    refine bodyPost_ret (v := .tuple #[.string lo, .string (lo ++ ⟨#[0]⟩), .bool true]) (by simp [results, Tryz.results210, go_sem]) rfl ⟨by rw [HM.out], below_next HB.out (below_drewN9 _ _)⟩
  · have k1' : (kd == 1) = false := by simpa using k1
    by_cases k2 : kd = 2
    · subst k2
      cases e1 : (hi.toList == [])
      all_goals
        have HM := Lib.hid (show endsP ⟨tb, 2, lo, hi⟩ = _ by rw [ends_2, e1])
        go_enter Tryz.func210, Tryz.ntmps210
        go_upto_region 5 with fail
        rw [HW.out]
        go_quiet (fail)
        go_wp2
        refine bodyPost_ret (v := .tuple #[.string lo, .string hi, .bool _]) (by simp [results, Tryz.results210, go_sem]; rfl) rfl ⟨by rw [HM.out] <;> rfl, below_next HB.out (below_drewN9 _ _)⟩
    · have k2' : (kd == 2) = false := by simpa using k2
      have HM := Lib.hid (show endsP ⟨tb, kd, lo, hi⟩ = (⟨#[]⟩, ⟨#[]⟩, false) by unfold endsP; rw [if_neg k1, if_neg k2])
      clear k1 k2
      go_enter Tryz.func210, Tryz.ntmps210
      go_upto_region 6 with fail
      rw [HW.out]
      go_wp2
      refine bodyPost_ret (v := .tuple #[.string ⟨#[]⟩, .string ⟨#[]⟩, .bool false]) (by simp [results, Tryz.results210, go_sem]) rfl ⟨by rw [HM.out], HB.out⟩
end Go.Proofs.YtknppiebncdjmaaGreat

/- Layer 9: the reference's has, Covers; notes in a list: count. -/
namespace Go.Proofs.YtknppiebncdjmaaGreat
set_option maxRecDepth 100000
set_option maxRecDepth 100000
open Go.RowKit

theorem has_1 (tb lo hi t k : ByteArray) : hasP ⟨tb, 1, lo, hi⟩ t k = ((tb.toList == t.toList) && (k.toList == lo.toList)) := rfl
theorem has_2 (tb lo hi t k : ByteArray) : hasP ⟨tb, 2, lo, hi⟩ t k = ((tb.toList == t.toList) && (!Op.bytesLess k.toList lo.toList && ((hi.toList == []) || Op.bytesLess k.toList hi.toList))) := rfl
theorem has_3 {kd : Int} (h1 : ¬ kd = 1) (h2 : ¬ kd = 2) (tb lo hi t k : ByteArray) : hasP ⟨tb, kd, lo, hi⟩ t k = (tb.toList == t.toList) := by
  unfold hasP
  rw [if_neg h1, if_neg h2, Bool.and_true]
set_option maxHeartbeats 8000000 in
theorem wrHas (w : World) (x : Rd) (t k : ByteArray) : Calls Tryz.prog 151 #[rdV x, .string t, .string k] w fun e w' => e = .returned (.bool (hasP x t k)) ∧ Below w.heap.size w w' := by
  obtain ⟨tb, kd, lo, hi⟩ := x
  obtain ⟨W, hW⟩ : ∃ W, w.alloc (.cells #[.string tb, .int .i64 kd, .string lo, .string hi] 114) = W := ⟨_, rfl⟩
  have HW := Lib.hid hW
  have HB := Lib.hid (show Below w.heap.size w W by rw [← hW]; exact below_alloc9 _ _)
  have q := rd_box w ⟨tb, kd, lo, hi⟩
  rw [hW] at q
  have x0 : W.cell? ⟨w.heap.size, 0, none⟩ = some (.string tb) := cell_of_row _ _ 0 _ _ _ q
  have x1 : W.cell? ⟨w.heap.size, 1, none⟩ = some (.int .i64 kd) := cell_of_row _ _ 1 _ _ _ q
  have x2 : W.cell? ⟨w.heap.size, 2, none⟩ = some (.string lo) := cell_of_row _ _ 2 _ _ _ q
  have x3 : W.cell? ⟨w.heap.size, 3, none⟩ = some (.string hi) := cell_of_row _ _ 3 _ _ _ q
  clear q hW
  unfold rdV
  cases e0 : (tb.toList == t.toList)
  · have HM := Lib.hid (show hasP ⟨tb, kd, lo, hi⟩ t k = false by unfold hasP; rw [e0]; rfl)
    go_enter Tryz.func151, Tryz.ntmps151
    go_upto_region 1 with fail
    rw [HW.out]
    go_wp2
    go_ret
    exact ⟨by rw [HM.out] <;> rfl, HB.out⟩
  · by_cases k1 : kd = 1
    · subst k1
      cases e1 : (k.toList == lo.toList)
      all_goals
        have HM := Lib.hid (show hasP ⟨tb, 1, lo, hi⟩ t k = _ by rw [has_1, e0, e1])
        go_enter Tryz.func151, Tryz.ntmps151
        go_upto_region 1 with fail
        rw [HW.out]
        go_wp2
        go_ret
        exact ⟨by rw [HM.out] <;> rfl, HB.out⟩
    · have k1' : (kd == 1) = false := by simpa using k1
      by_cases k2 : kd = 2
      · subst k2
        cases e1 : Op.bytesLess k.toList lo.toList <;> cases e2 : (hi.toList == []) <;> cases e3 : Op.bytesLess k.toList hi.toList
        all_goals
          have HM := Lib.hid (show hasP ⟨tb, 2, lo, hi⟩ t k = _ by rw [has_2, e0, e1, e2, e3])
          go_enter Tryz.func151, Tryz.ntmps151
          go_upto_region 1 with fail
          rw [HW.out]
          go_wp2
          go_ret
          exact ⟨by rw [HM.out] <;> rfl, HB.out⟩
      · have k2' : (kd == 2) = false := by simpa using k2
        have HM := Lib.hid (show hasP ⟨tb, kd, lo, hi⟩ t k = true by rw [has_3 k1 k2, e0])
        clear k1 k2
        go_enter Tryz.func151, Tryz.ntmps151
        go_upto_region 1 with fail
        rw [HW.out]
        go_wp2
        go_ret
        exact ⟨by rw [HM.out] <;> rfl, HB.out⟩

set_option maxHeartbeats 8000000 in
theorem wrCovers (w : World) (a b : Rd) (ha : a.lo.size ≤ 140737488355328) (hb : b.lo.size ≤ 140737488355328) : Calls Tryz.prog 187 #[rdV a, rdV b] w fun e w' => e = .returned (.bool (coversP a b)) ∧ Below w.heap.size w w' := by
  obtain ⟨W1, hW1⟩ : ∃ W, w.alloc (.cells #[.string a.tb, .int .i64 a.kd, .string a.lo, .string a.hi] 114) = W := ⟨_, rfl⟩
  obtain ⟨W, hW⟩ : ∃ W, W1.alloc (.cells #[.string b.tb, .int .i64 b.kd, .string b.lo, .string b.hi] 114) = W := ⟨_, rfl⟩
  have HW1 := Lib.hid hW1
  have HW := Lib.hid hW
  have b1 : Below w.heap.size w W1 := by rw [← hW1]; exact below_alloc9 _ _
  have b2 : Below W1.heap.size W1 W := by rw [← hW]; exact below_alloc9 _ _
  have HB := Lib.hid (below_next b1 b2)
  have hz1 : W1.heap.size = w.heap.size + 1 := by rw [← hW1]; simp
  have q1 := rd_box w a
  rw [hW1] at q1
  have q1 := (b2.block _ (by omega)).trans q1
  have q2 := rd_box W1 b
  rw [hW, hz1] at q2
  have Q1 := Lib.hid q1
  have Q2 := Lib.hid q2
  have x0 : W.cell? ⟨w.heap.size, 0, none⟩ = some (.string a.tb) := cell_of_row _ _ 0 _ _ _ q1
  have x1 : W.cell? ⟨w.heap.size, 1, none⟩ = some (.int .i64 a.kd) := cell_of_row _ _ 1 _ _ _ q1
  have x2 : W.cell? ⟨w.heap.size, 2, none⟩ = some (.string a.lo) := cell_of_row _ _ 2 _ _ _ q1
  have x3 : W.cell? ⟨w.heap.size, 3, none⟩ = some (.string a.hi) := cell_of_row _ _ 3 _ _ _ q1
  have y0 : W.cell? ⟨w.heap.size + 1, 0, none⟩ = some (.string b.tb) := cell_of_row _ _ 0 _ _ _ q2
  have y1 : W.cell? ⟨w.heap.size + 1, 1, none⟩ = some (.int .i64 b.kd) := cell_of_row _ _ 1 _ _ _ q2
  have y2 : W.cell? ⟨w.heap.size + 1, 2, none⟩ = some (.string b.lo) := cell_of_row _ _ 2 _ _ _ q2
  have y3 : W.cell? ⟨w.heap.size + 1, 3, none⟩ = some (.string b.hi) := cell_of_row _ _ 3 _ _ _ q2
  have CA := Lib.hid (fun W => wrMay W a)
  have CB := Lib.hid (fun W => wrMay W b)
  have EA := Lib.hid (fun W => wrEnds W a ha)
  have EB := Lib.hid (fun W => wrEnds W b hb)
  obtain ⟨ma, hma⟩ : ∃ m, mayP a = m := ⟨_, rfl⟩
  obtain ⟨mb, hmb⟩ : ∃ m, mayP b = m := ⟨_, rfl⟩
  obtain ⟨ea, hea⟩ : ∃ m, endsP a = m := ⟨_, rfl⟩
  obtain ⟨eb, heb⟩ : ∃ m, endsP b = m := ⟨_, rfl⟩
  rw [hma] at CA
  rw [hmb] at CB
  rw [hea] at EA
  rw [heb] at EB
  have HC : coversP a b = (ma && mb && (a.tb.toList == b.tb.toList) && !klB eb.1 ea.1 && (!ea.2.2 || (eb.2.2 && !klB ea.2.1 eb.2.1))) := by unfold coversP; rw [hma, hmb, hea, heb]
  obtain ⟨f1, t1, d1⟩ := ea
  obtain ⟨f2, t2, d2⟩ := eb
  dsimp only at HC EA EB
  have HC := Lib.hid HC
  unfold rdV at CA CB EA EB
  clear hW1 hW b1 b2 hz1 q1 q2 hma hmb hea heb ha hb
  unfold rdV
  cases ma
  · have HM := Lib.hid (show coversP a b = false by rw [HC.out]; rfl)
    go_enter Tryz.func187, Tryz.ntmps187
    go_upto_region 1 with fail
    rw [HW1.out, HW.out]
    go_wp2_with (go_at_call 186; refine (CA.out _).mono ?_; rintro e w3 ⟨rfl, g3⟩; have G3 := Lib.hid (below_next HB.out g3); clear g3 CA)
    go_ret
    exact ⟨by rw [HM.out] <;> rfl, G3.out⟩
  · cases mb
    · have HM := Lib.hid (show coversP a b = false by rw [HC.out]; rfl)
      go_enter Tryz.func187, Tryz.ntmps187
      go_upto_region 1 with fail
      rw [HW1.out, HW.out]
      go_wp2_with (first
        | (go_at_call 186; refine (CA.out _).mono ?_; rintro e w3 ⟨rfl, g3⟩; have G3 := Lib.hid (below_next HB.out g3); replace y0 := keep_below y0 g3; replace y1 := keep_below y1 g3; replace y2 := keep_below y2 g3; replace y3 := keep_below y3 g3; clear g3 CA)
        | (go_at_call 186; refine (CB.out _).mono ?_; rintro e w4 ⟨rfl, g4⟩; have G4 := Lib.hid (below_next G3.out g4); clear g4 CB))
      go_ret
      exact ⟨by rw [HM.out] <;> rfl, G4.out⟩
    · cases e0 : (a.tb.toList == b.tb.toList)
      · have HM := Lib.hid (show coversP a b = false by rw [HC.out, e0]; rfl)
        go_enter Tryz.func187, Tryz.ntmps187
        go_upto_region 1 with fail
        rw [HW1.out, HW.out]
        go_wp2_with (first
          | (go_at_call 186; refine (CA.out _).mono ?_; rintro e w3 ⟨rfl, g3⟩; have G3 := Lib.hid (below_next HB.out g3); replace x0 := keep_below x0 g3; replace y0 := keep_below y0 g3; replace y1 := keep_below y1 g3; replace y2 := keep_below y2 g3; replace y3 := keep_below y3 g3; clear g3 CA)
          | (go_at_call 186; refine (CB.out _).mono ?_; rintro e w4 ⟨rfl, g4⟩; have G4 := Lib.hid (below_next G3.out g4); replace x0 := keep_below x0 g4; replace y0 := keep_below y0 g4; clear g4 CB))
        go_ret
        exact ⟨by rw [HM.out] <;> rfl, G4.out⟩
      · go_enter Tryz.func187, Tryz.ntmps187
        go_upto_region 1 with fail
        rw [HW1.out, HW.out]
        go_upto_region 5 with (first
          | (go_at_call 186; refine (CA.out _).mono ?_; rintro e w3 ⟨rfl, g3⟩; have G3 := Lib.hid (below_next HB.out g3); replace x0 := keep_below x0 g3; replace x1 := keep_below x1 g3; replace x2 := keep_below x2 g3; replace x3 := keep_below x3 g3; replace y0 := keep_below y0 g3; replace y1 := keep_below y1 g3; replace y2 := keep_below y2 g3; replace y3 := keep_below y3 g3; clear g3 CA)
          | (go_at_call 186; refine (CB.out _).mono ?_; rintro e w4 ⟨rfl, g4⟩; have G4 := Lib.hid (below_next G3.out g4); replace x0 := keep_below x0 g4; replace x1 := keep_below x1 g4; replace x2 := keep_below x2 g4; replace x3 := keep_below x3 g4; replace y0 := keep_below y0 g4; replace y1 := keep_below y1 g4; replace y2 := keep_below y2 g4; replace y3 := keep_below y3 g4; clear g4 CB)
          | (go_at_call 210; refine (EA.out _).mono ?_; rintro e w5 ⟨rfl, g5⟩; have G5 := Lib.hid (below_next G4.out g5); replace y0 := keep_below y0 g5; replace y1 := keep_below y1 g5; replace y2 := keep_below y2 g5; replace y3 := keep_below y3 g5; clear g5 EA)
          | (go_at_call 210; refine (EB.out _).mono ?_; rintro e w6 ⟨rfl, g6⟩; have G6 := Lib.hid (below_next G5.out g6); clear g6 EB))
        clear x0 x1 x2 x3 y0 y1 y2 y3 Q1 Q2
        cases c1 : Op.bytesLess f2.toList f1.toList <;> cases d1 <;> cases d2 <;> cases c2 : Op.bytesLess t2.toList t1.toList <;> cases c3 : (t2.toList == t1.toList)
        all_goals
          have HM := Lib.hid (show coversP a b = _ by rw [HC.out, e0, show klB f2 f1 = _ from c1, bl_le8 t2 t1, c2, c3])
          go_wp2
          go_ret
          exact ⟨by rw [HM.out] <;> rfl, G6.out⟩
end Go.Proofs.YtknppiebncdjmaaGreat
