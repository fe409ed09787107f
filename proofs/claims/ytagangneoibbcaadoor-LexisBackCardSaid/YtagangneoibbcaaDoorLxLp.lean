/- Layer 12: each token's own bytes alone are that token, fewer are not: over plain lists. -/
import Derived.Test.YtagangneoibbcaaDoorLxTk
set_option linter.unusedVariables false
namespace Go.Proofs.YtagangneoibbcaaDoor
set_option maxRecDepth 100000
set_option maxRecDepth 100000
open Go.RowKit

theorem skip_take : ∀ (b : Bool) (R : List Int), skipN b (R.take (skipN b R)) = skipN b R
  | b, [] => by cases b <;> simp [skipN]
  | false, c :: r => by
    have h1 := skip_take false r
    have h2 := skip_take true r
    by_cases hg : gapB c = true
    · rw [skip_gap hg, Nat.add_comm 1, List.take_succ_cons, skip_gap hg, h1, Nat.add_comm]
    · by_cases hc : c = 35
      · subst hc
        rw [skip_hash, Nat.add_comm 1, List.take_succ_cons, skip_hash, h2, Nat.add_comm]
      · rw [skip_tok (by simpa using hg) hc, List.take_zero]; rfl
  | true, c :: r => by
    have h1 := skip_take false r
    have h2 := skip_take true r
    by_cases hc : c = 10
    · subst hc
      have e : skipN true (10 :: r) = 1 + skipN false r := by rw [skipN, if_pos rfl]
      rw [e, Nat.add_comm 1, List.take_succ_cons, skipN, if_pos rfl, h1, Nat.add_comm]
    · rw [skip_in hc, Nat.add_comm 1, List.take_succ_cons, skip_in hc, h2, Nat.add_comm]
theorem tw_take (q : Int → Bool) : ∀ (R : List Int) (k : Nat), (R.take k).takeWhile q = (R.takeWhile q).take k
  | [], k => by simp
  | c :: r, 0 => by simp
  | c :: r, k + 1 => by
    rw [List.take_succ_cons, List.takeWhile_cons, List.takeWhile_cons]
    split
    · rw [tw_take q r k, List.take_succ_cons]
    · simp
theorem upQ_some {z : List Int} {n m : Nat} {x : Option (List Int) × Nat} {b : List Int} (h : upQ z n x = (some b, m)) : ∃ b' m', x = (some b', m') ∧ b = z ++ b' ∧ m = n + m' := by
  obtain ⟨o, k⟩ := x
  cases o with
  | none => simp [upQ] at h
  | some b' => simp [upQ] at h; exact ⟨b', k, rfl, h.1.symm, h.2.symm⟩
theorem upQ_none {z : List Int} {n : Nat} {x : Option (List Int) × Nat} (h : x.1 = none) : (upQ z n x).1 = none := by
  obtain ⟨o, k⟩ := x
  cases o with
  | none => rfl
  | some b' => simp at h
theorem qt_take : ∀ (N : Nat) (R : List Int), R.length ≤ N → ∀ b m, qtP R = (some b, m) → qtP (R.take m) = (some b, m) ∧ ∀ k, k < m → (qtP (R.take k)).1 = none
  | 0, R, h, b, m, e => by
    obtain rfl := List.eq_nil_of_length_eq_zero (Nat.le_zero.1 h)
    rw [qt_nil] at e; simp at e
  | N + 1, R, h, b, m, e => by
    have zero : (qtP (R.take 0)).1 = none := by rw [List.take_zero, qt_nil]
    rcases R with _ | ⟨c, r⟩
    · rw [qt_nil] at e; simp at e
    rw [List.length_cons] at h
    by_cases h34 : c = 34
    · subst h34
      rw [qt_end] at e
      simp at e
      obtain ⟨rfl, rfl⟩ := e
      refine ⟨by rw [List.take_succ_cons, List.take_zero, qt_end], fun k hk => ?_⟩
      obtain rfl : k = 0 := by omega
      exact zero
    by_cases h92 : c = 92
    · subst h92
      rcases r with _ | ⟨d, r2⟩
      · rw [qt_esc0] at e; simp at e
      rw [List.length_cons] at h
      have one : (qtP ((92 :: d :: r2).take 1)).1 = none := by rw [List.take_succ_cons, List.take_zero, qt_esc0]
      have two : ∀ (z : List Int), (∀ r : List Int, qtP (92 :: d :: r) = upQ z 2 (qtP r)) → qtP ((92 :: d :: r2).take m) = (some b, m) ∧ ∀ k, k < m → (qtP ((92 :: d :: r2).take k)).1 = none := fun z hz => by
        rw [hz] at e
        obtain ⟨b', m', e', rfl, rfl⟩ := upQ_some e
        obtain ⟨i1, i2⟩ := qt_take N r2 (by omega) b' m' e'
        refine ⟨by rw [Nat.add_comm 2, List.take_succ_cons, List.take_succ_cons, hz, i1]; simp [upQ, Nat.add_comm], fun k hk => ?_⟩
        match k with
        | 0 => exact zero
        | 1 => exact one
        | k + 2 => rw [List.take_succ_cons, List.take_succ_cons, hz]; exact upQ_none (i2 k (by omega))
      by_cases hs : d = 34 ∨ d = 92
      · exact two [d] (fun r => qt_same hs r)
      by_cases hn : d = 110
      · subst hn; exact two [10] qt_n
      by_cases ht : d = 116
      · subst ht; exact two [9] qt_t
      by_cases hx : d = 120
      · subst hx
        rcases r2 with _ | ⟨a, r3⟩
        · rw [qt_x0] at e; simp at e
        cases ha : hexB a with
        | false => rw [qt_x1 ha] at e; simp at e
        | true =>
          rcases r3 with _ | ⟨l, r4⟩
          · rw [qt_x2 ha] at e; simp at e
          simp only [List.length_cons] at h
          cases hl : hexB l with
          | false => rw [qt_x3 ha hl] at e; simp at e
          | true =>
            rw [qt_x ha hl] at e
            obtain ⟨b', m', e', rfl, rfl⟩ := upQ_some e
            obtain ⟨i1, i2⟩ := qt_take N r4 (by omega) b' m' e'
            refine ⟨by rw [Nat.add_comm 4, List.take_succ_cons, List.take_succ_cons, List.take_succ_cons, List.take_succ_cons, qt_x ha hl, i1]; simp [upQ, Nat.add_comm], fun k hk => ?_⟩
            match k with
            | 0 => exact zero
            | 1 => exact one
            | 2 => rw [show ((92 : Int) :: 120 :: a :: l :: r4).take 2 = [92, 120] from rfl, qt_x0]
            | 3 => rw [show ((92 : Int) :: 120 :: a :: l :: r4).take 3 = [92, 120, a] from rfl, qt_x2 ha]
            | k + 4 => rw [List.take_succ_cons, List.take_succ_cons, List.take_succ_cons, List.take_succ_cons, qt_x ha hl]; exact upQ_none (i2 k (by omega))
      · rw [qt_other (by omega) (by omega) hn ht hx] at e; simp at e
    cases hp : plnB c with
    | true =>
      rw [qt_plain hp] at e
      obtain ⟨b', m', e', rfl, rfl⟩ := upQ_some e
      obtain ⟨i1, i2⟩ := qt_take N r (by omega) b' m' e'
      refine ⟨by rw [Nat.add_comm 1, List.take_succ_cons, qt_plain hp, i1]; simp [upQ, Nat.add_comm], fun k hk => ?_⟩
      match k with
      | 0 => exact zero
      | k + 1 => rw [List.take_succ_cons, qt_plain hp]; exact upQ_none (i2 k (by omega))
    | false => rw [qt_bad hp h34 h92] at e; simp at e

/-- A number's digits: fewer say less. -/
theorem numP_step (a : Nat) (l : List Int) : a ≤ l.foldl (fun a c => a * 10 + (c - 48).toNat) a := by
  induction l generalizing a with
  | nil => exact Nat.le_refl _
  | cons c l ih => rw [List.foldl_cons]; exact Nat.le_trans (by omega) (ih _)
theorem numP_take {d : List Int} {k : Nat} (hk : k ≤ d.length) : numP d = (d.drop k).foldl (fun a c => a * 10 + (c - 48).toNat) (numP (d.take k)) := by
  unfold numP
  rw [← List.foldl_append, List.take_append_drop]
theorem numP_pos {c : Int} {r : List Int} (h : 49 ≤ c) : 1 ≤ numP (c :: r) := by
  unfold numP
  rw [List.foldl_cons]
  refine Nat.le_trans ?_ (numP_step _ _)
  omega
theorem numP_less {d : List Int} {k : Nat} (hk : k < d.length) (h1 : 1 ≤ numP (d.take k)) : numP (d.take k) < numP d := by
  rw [numP_take (Nat.le_of_lt hk), List.drop_eq_getElem_cons hk, List.foldl_cons]
  refine Nat.lt_of_lt_of_le ?_ (numP_step _ _)
  omega
theorem chP_take {R : List Int} {k j : Nat} (h : j < k) : chP (R.take k) j = chP R j := by
  unfold chP
  rw [List.getD_eq_getElem?_getD, List.getD_eq_getElem?_getD, List.getElem?_take_of_lt h]
/-- The same token at the front. -/
def Tk.at0 (x : Tk) : Tk := ⟨x.k, x.t, x.vk, x.vi, x.vb, 0⟩
/-- Another one, or the value of another number. -/
def Less (x y : Tk) : Prop := x.k = y.k ∧ (x.t.size < y.t.size ∨ (x.t = y.t ∧ x.vk = y.vk ∧ x.vb = y.vb ∧ x.vi < y.vi))
theorem one_a {a : Nat} {R : List Int} (h : (oneP a R).e = 0) : (oneP a R).tk.a = a := by
  unfold oneP at h ⊢
  split at h
  · rename_i h1
    rw [if_pos h1]
    unfold nameP at h ⊢
    split at h
    · exact absurd h (by decide)
    · rename_i h2; rw [if_neg h2]
  · rename_i h1
    rw [if_neg h1]
    split at h
    · rename_i h1
      rw [if_pos h1]
      unfold intP at h ⊢
      split at h
      · exact absurd h (by decide)
      · rename_i h2; rw [if_neg h2]
    · rename_i h1
      rw [if_neg h1]
      split at h
      · rename_i h1
        rw [if_pos h1]
        unfold textP at h ⊢
        split at h
        · exact absurd (show (123 : Int) = 0 from h) (by decide)
        · split at h
          · exact absurd (show (3 : Int) = 0 from h) (by decide)
          · rename_i h2; simp only [if_neg h2]
      · rename_i h1
        rw [if_neg h1]
        unfold signP at h ⊢
        split at h
        · exact absurd h (by decide)
        · rename_i h2; rw [if_neg h2]

theorem strOf_sz (l : List Int) : (strOfNums l).size = l.length := by simp [strOfNums, ByteArray.size]
/-- x: what the first k bytes alone are, where y stands. -/
def TakIs (x y : One) (k : Nat) : Prop := (k = y.n → x.e = 0 ∧ x.n = k ∧ x.tk = y.tk.at0) ∧ (k < y.n → ¬ x.e = 0 ∨ (x.e = 0 ∧ x.n = k ∧ Less x.tk y.tk))
theorem name_take {a k : Nat} {R : List Int} (h : (nameP a R).e = 0) (hk : k ≤ (nameP a R).n) : TakIs (nameP 0 (R.take k)) (nameP a R) k := by
  unfold nameP at h hk ⊢
  rw [tw_take]
  by_cases h2 : 32 < (R.takeWhile innB).length
  · rw [if_pos h2] at h; exact absurd h (by decide)
  · rw [if_neg h2] at hk ⊢
    dsimp only at hk
    have hl : ((R.takeWhile innB).take k).length = k := by rw [List.length_take]; omega
    rw [if_neg (by rw [hl]; omega), hl]
    refine ⟨fun e => ⟨rfl, rfl, ?_⟩, fun e => .inr ⟨rfl, rfl, rfl, .inl ?_⟩⟩
    · have e : k = (R.takeWhile innB).length := e
      dsimp only [Tk.at0]
      rw [e, List.take_length]
    · have e : k < (R.takeWhile innB).length := e
      dsimp only
      rw [strOf_sz, strOf_sz, hl]; exact e
theorem int_take {a k : Nat} {R : List Int} (hd : digB (chP R 0) = true) (h : (intP a R).e = 0) (h1 : 1 ≤ k) (hk : k ≤ (intP a R).n) : TakIs (intP 0 (R.take k)) (intP a R) k := by
  unfold intP at h hk ⊢
  by_cases h2 : badN R = true
  · rw [if_pos h2] at h; exact absurd h (by decide)
  · rw [if_neg h2] at hk ⊢
    dsimp only at hk
    have hl : ((R.takeWhile digB).take k).length = k := by rw [List.length_take]; omega
    have hRl := tw_le digB R
    have hMl : (R.take k).length = k := by rw [List.length_take]; omega
    have h3 := h2
    unfold badN at h3
    simp only [Bool.or_eq_true, not_or, decide_eq_true_eq, Bool.and_eq_true, not_and] at h3
    obtain ⟨⟨⟨g1, g2⟩, g3⟩, g4⟩ := h3
    have hpos : k < (R.takeWhile digB).length → 1 ≤ numP ((R.takeWhile digB).take k) := fun e => by
      have hne : ¬ chP R 0 = 48 := fun q => g4 q (by omega)
      have h49 : 49 ≤ chP R 0 := by unfold digB at hd; rw [decide_eq_true_eq] at hd; omega
      rcases R with _ | ⟨c, r⟩
      · simp at e
      rw [chP_0] at h49 hd
      rw [List.takeWhile_cons, if_pos hd]
      obtain ⟨k', rfl⟩ : ∃ k', k = k' + 1 := ⟨k - 1, by omega⟩
      rw [List.take_succ_cons]
      exact numP_pos h49
    have hle : numP ((R.takeWhile digB).take k) ≤ numP (R.takeWhile digB) := by
      rcases Nat.lt_or_ge k (R.takeWhile digB).length with e | e
      · exact Nat.le_of_lt (numP_less e (hpos e))
      · rw [List.take_of_length_le e]; exact Nat.le_refl _
    have hb : badN (R.take k) = false := by
      unfold badN
      rw [tw_take, hl, chP_end _ _ (by rw [hMl]; exact Nat.le_refl _), chP_take (by omega)]
      simp only [Bool.or_eq_false_iff, Bool.and_eq_false_iff, decide_eq_false_iff_not]
      refine ⟨⟨⟨by decide, by decide⟩, by omega⟩, ?_⟩
      by_cases q : chP R 0 = 48
      · right; have := g4 q; omega
      · left; exact q
    rw [hb, tw_take, hl]
    refine ⟨fun e => ⟨rfl, rfl, ?_⟩, fun e => .inr ⟨rfl, rfl, rfl, .inr ⟨rfl, rfl, rfl, ?_⟩⟩⟩
    · have e : k = (R.takeWhile digB).length := e
      simp only [Tk.at0, Bool.false_eq_true, if_false]
      rw [e, List.take_length]
    · have e : k < (R.takeWhile digB).length := e
      have := numP_less e (hpos e)
      simp only [Bool.false_eq_true, if_false]
      omega
theorem text_take {a k : Nat} {R : List Int} (hR : 1 ≤ R.length) (h : (textP a R).e = 0) (h1 : 1 ≤ k) (hk : k ≤ (textP a R).n) : TakIs (textP 0 (R.take k)) (textP a R) k := by
  obtain ⟨k', rfl⟩ : ∃ k', k = k' + 1 := ⟨k - 1, by omega⟩
  rcases R with _ | ⟨c, r⟩
  · simp at hR
  unfold textP at h hk ⊢
  rw [List.take_succ_cons, List.drop_succ_cons, List.drop_zero]
  rw [List.drop_succ_cons, List.drop_zero] at h hk ⊢
  rcases hq : qtP r with ⟨_ | b, n⟩
  · rw [hq] at h; exact absurd (show (123 : Int) = 0 from h) (by decide)
  · rw [hq] at h hk
    dsimp only at h hk ⊢
    by_cases h5 : 4096 < b.length
    · rw [if_pos h5] at h; exact absurd (show (3 : Int) = 0 from h) (by decide)
    · rw [if_neg h5] at hk ⊢
      dsimp only at hk
      obtain ⟨q1, q2⟩ := qt_take _ r (Nat.le_refl _) b n hq
      refine ⟨fun e => ?_, fun e => .inl ?_⟩
      · have e : k' + 1 = 1 + n := e
        obtain rfl : k' = n := by omega
        rw [q1]
        dsimp only
        rw [if_neg h5]
        exact ⟨rfl, Nat.add_comm 1 k', rfl⟩
      · have e : k' + 1 < 1 + n := e
        have q3 := q2 k' (by omega)
        rcases hq' : qtP (r.take k') with ⟨o, m⟩
        rw [hq'] at q3
        dsimp only at q3
        subst q3
        show ¬ (123 : Int) = 0
        decide
theorem sign_take {a k : Nat} {R : List Int} (hR : (signP a R).n ≤ R.length) (h : (signP a R).e = 0) (h1 : 1 ≤ k) (hk : k ≤ (signP a R).n) : TakIs (signP 0 (R.take k)) (signP a R) k := by
  unfold signP at h hk hR ⊢
  by_cases h2 : signN (chP R 0) (chP R 1) = 0
  · rw [if_pos h2] at h; exact absurd h (by decide)
  · rw [if_neg h2] at hk hR ⊢
    dsimp only at hk hR
    rw [chP_take (show 0 < k by omega)]
    have hn : signN (chP R 0) (chP R 1) ≤ 2 := by unfold signN; (repeat' split) <;> omega
    have hs : signN (chP R 0) (chP R 1) = 1 → signN (chP R 0) (-1) = 1 := fun e => by
      unfold signN at e ⊢
      generalize chP R 0 = c at e ⊢
      generalize chP R 1 = d at e
      by_cases c1 : c = 40 ∨ c = 41 ∨ c = 123 ∨ c = 125 ∨ c = 44 ∨ c = 59 ∨ c = 58 ∨ c = 43 ∨ c = 45 ∨ c = 42 ∨ c = 47 ∨ c = 37
      · rw [if_pos c1]
      · rw [if_neg c1] at e ⊢
        by_cases c2 : c = 61 ∨ c = 33 ∨ c = 60
        · rw [if_pos c2, if_neg (by decide)]
        · rw [if_neg c2] at e
          exfalso
          split at e
          · split at e <;> omega
          · omega
    have hk1 : k = 1 → chP (R.take k) 1 = -1 := fun e => by rw [e]; exact chP_end _ _ (by rw [List.length_take]; omega)
    refine ⟨fun e => ?_, fun e => ?_⟩
    · have e : k = signN (chP R 0) (chP R 1) := e
      have e2 : signN (chP R 0) (chP (R.take k) 1) = k := by
        rcases Nat.lt_or_ge 1 k with q | q
        · rw [chP_take q]; exact e.symm
        · have q1 : k = 1 := by omega
          rw [hk1 q1, q1]; exact hs (by omega)
      rw [e2, if_neg (by omega)]
      refine ⟨rfl, rfl, ?_⟩
      dsimp only [Tk.at0]
      rw [List.take_take, Nat.min_self, e]
    · have e : k < signN (chP R 0) (chP R 1) := e
      obtain rfl : k = 1 := by omega
      rw [hk1 rfl]
      by_cases e3 : signN (chP R 0) (-1) = 0
      · left; rw [if_pos e3]; show ¬ (120 : Int) = 0; decide
      · right
        have e4 : signN (chP R 0) (-1) = 1 := by
          unfold signN at e3 ⊢
          (repeat' split) <;> first | rfl | omega | (exfalso; simp_all)
        rw [e4, if_neg (by omega)]
        refine ⟨rfl, rfl, rfl, .inl ?_⟩
        dsimp only
        rw [strOf_sz, strOf_sz, List.length_take, List.length_take, List.length_take]
        omega
theorem one_take {a k : Nat} {R : List Int} (hR : 1 ≤ R.length) (h : (oneP a R).e = 0) (h1 : 1 ≤ k) (hk : k ≤ (oneP a R).n) : TakIs (oneP 0 (R.take k)) (oneP a R) k := by
  have hlen : (oneP a R).n ≤ R.length := by
    rcases R with _ | ⟨c, r⟩
    · simp at hR
    exact (one_len a c r h).2
  unfold oneP at h hk hlen ⊢
  rw [chP_take (show 0 < k by omega)]
  by_cases c1 : lowB (chP R 0) = true
  · rw [if_pos c1] at h hk ⊢; rw [if_pos c1]; exact name_take h hk
  rw [if_neg c1] at h hk hlen ⊢; rw [if_neg c1]
  by_cases c2 : digB (chP R 0) = true
  · rw [if_pos c2] at h hk ⊢; rw [if_pos c2]; exact int_take c2 h h1 hk
  rw [if_neg c2] at h hk hlen ⊢; rw [if_neg c2]
  by_cases c3 : chP R 0 = 34
  · rw [if_pos c3] at h hk ⊢; rw [if_pos c3]; exact text_take hR h h1 hk
  rw [if_neg c3] at h hk hlen ⊢; rw [if_neg c3]
  exact sign_take hlen h h1 hk

theorem skip_drop : ∀ (b : Bool) (R : List Int), skipN false (R.drop (skipN b R)) = 0
  | b, [] => by cases b <;> simp [skipN]
  | false, c :: r => by
    have h1 := skip_drop false r
    have h2 := skip_drop true r
    by_cases hg : gapB c = true
    · rw [skip_gap hg, Nat.add_comm 1, List.drop_succ_cons, h1]
    · by_cases hc : c = 35
      · subst hc
        rw [skip_hash, Nat.add_comm 1, List.drop_succ_cons, h2]
      · rw [skip_tok (by simpa using hg) hc, List.drop_zero, skip_tok (by simpa using hg) hc]
  | true, c :: r => by
    have h1 := skip_drop false r
    have h2 := skip_drop true r
    by_cases hc : c = 10
    · subst hc
      have e : skipN true (10 :: r) = 1 + skipN false r := by rw [skipN, if_pos rfl]
      rw [e, Nat.add_comm 1, List.drop_succ_cons, h1]
    · rw [skip_in hc, Nat.add_comm 1, List.drop_succ_cons, h2]
theorem skip_front {R : List Int} {k : Nat} (h : skipN false R = 0) : skipN false (R.take k) = 0 := by
  rcases R with _ | ⟨c, r⟩
  · rw [List.take_nil]; rfl
  rcases k with _ | k
  · rw [List.take_zero]; rfl
  rw [List.take_succ_cons]
  by_cases hg : gapB c = true
  · rw [skip_gap hg] at h; omega
  · by_cases hc : c = 35
    · subst hc; rw [skip_hash] at h; omega
    · exact skip_tok (by simpa using hg) hc _
theorem toks_one {M : List Int} (h0 : skipN false M = 0) (hl : 1 ≤ M.length) (he : (oneP 0 M).e = 0) (hn : (oneP 0 M).n = M.length) : toksP M = ([(oneP 0 M).tk], 0, 0) := by
  obtain ⟨f, hf⟩ : ∃ f, M.length = f + 1 := ⟨M.length - 1, by omega⟩
  unfold toksP
  rw [ahead_ok (by rw [h0]; omega) (by rw [h0]; exact he)]
  simp only [h0, Nat.add_zero, Nat.zero_add, List.drop_zero, hn, List.drop_length]
  rw [hf, ahead_end rfl]
theorem toks_bad {M : List Int} (h0 : skipN false M = 0) (hl : 1 ≤ M.length) (he : ¬ (oneP 0 M).e = 0) : ¬ (toksP M).2.2 = 0 := by
  unfold toksP
  rw [ahead_bad (by rw [h0]; omega) (by rw [h0]; exact he)]
  simpa [h0] using he

/-- From token j on, from place e on. -/
def LoT (L : List Int) (l : List Tk) (j e : Nat) : Prop := e ≤ L.length ∧ ∃ f, L.length < e + f ∧ (aheadP f e (L.drop e)).1 = l.drop j ∧ (aheadP f e (L.drop e)).2.2 = 0
theorem LoT.start {L : List Int} (h : (toksP L).2.2 = 0) : LoT L (toksP L).1 0 0 := ⟨Nat.zero_le _, L.length + 1, by omega, by rw [List.drop_zero, List.drop_zero]; rfl, by rw [List.drop_zero]; exact h⟩
/-- A token with its place, and what its first bytes alone are. -/
structure LoS (L : List Int) (l : List Tk) (j e p n : Nat) (t : Tk) : Prop where
  at_ : l[j]? = some t
  a : t.a = p
  le : e ≤ p
  lt : p < L.length
  pos : 1 ≤ n
  len : p + n ≤ L.length
  gap : skipN false ((L.drop e).take (p - e)) = p - e
  less : ∀ k, 1 ≤ k → k < n → ¬ (toksP ((L.drop p).take k)).2.2 = 0 ∨ ∃ x, toksP ((L.drop p).take k) = ([x], 0, 0) ∧ Less x t
  own : toksP ((L.drop p).take n) = ([t.at0], 0, 0)
  more : LoT L l (j + 1) (p + n)
section
variable {L : List Int} {l : List Tk} {j e : Nat}
theorem LoT.last (h : LoT L l j e) (hj : l.length ≤ j) : skipN false (L.drop e) = (L.drop e).length := by
  obtain ⟨h1, f, h2, h3, h4⟩ := h
  obtain ⟨f, rfl⟩ : ∃ f', f = f' + 1 := ⟨f - 1, by omega⟩
  by_cases q : skipN false (L.drop e) = (L.drop e).length
  · exact q
  · exfalso
    by_cases q2 : (oneP (e + skipN false (L.drop e)) ((L.drop e).drop (skipN false (L.drop e)))).e = 0
    · rw [ahead_ok q q2, List.drop_eq_nil_of_le hj] at h3
      exact absurd h3 (by simp)
    · rw [ahead_bad q q2] at h4
      exact q2 h4
theorem LoT.step (h : LoT L l j e) (hj : j < l.length) : ∃ p n t, LoS L l j e p n t := by
  obtain ⟨h1, f, h2, h3, h4⟩ := h
  obtain ⟨f, rfl⟩ : ∃ f', f = f' + 1 := ⟨f - 1, by omega⟩
  by_cases q : skipN false (L.drop e) = (L.drop e).length
  · have hd : l.drop j = l[j] :: l.drop (j + 1) := List.drop_eq_getElem_cons hj
    rw [ahead_end q, hd] at h3
    dsimp only at h3
    cases h3
  · by_cases q2 : (oneP (e + skipN false (L.drop e)) ((L.drop e).drop (skipN false (L.drop e)))).e = 0
    · rw [ahead_ok q q2] at h3 h4
      rw [List.drop_drop] at q2
      have hk := skipN_le false (L.drop e)
      have hl0 := q
      rw [List.length_drop] at hk hl0
      have hskip : skipN false (L.drop (e + skipN false (L.drop e))) = 0 := by have := skip_drop false (L.drop e); rwa [List.drop_drop] at this
      have hgap := skip_take false (L.drop e)
      rw [List.drop_drop, List.drop_drop] at h3 h4
      generalize skipN false (L.drop e) = sk at *
      have hp : e + sk < L.length := by omega
      have hol := one_lenL (L := L) (e + sk) (e + sk) hp q2
      have hdl : 1 ≤ (L.drop (e + sk)).length := by rw [List.length_drop]; omega
      have htk := fun k (a : 1 ≤ k) (b : k ≤ (oneP (e + sk) (L.drop (e + sk))).n) => one_take (k := k) hdl q2 a b
      have hta := one_a q2
      generalize oneP (e + sk) (L.drop (e + sk)) = o at *
      have hlen : ∀ k, k ≤ o.n → ((L.drop (e + sk)).take k).length = k := fun k hk => by rw [List.length_take, List.length_drop]; omega
      have hd : l.drop j = l[j] :: l.drop (j + 1) := List.drop_eq_getElem_cons hj
      rw [hd] at h3
      injection h3 with h5 h6
      refine ⟨e + sk, o.n, o.tk, ?_, hta, by omega, hp, hol.1, hol.2, by rw [Nat.add_sub_cancel_left]; exact hgap, fun k k1 k2 => ?_, ?_, ⟨hol.2, f, by omega, ?_, ?_⟩⟩
      · rw [List.getElem?_eq_getElem hj, h5]
      · obtain ⟨-, t2⟩ := htk k k1 (by omega)
        rcases t2 k2 with t3 | ⟨t3, t4, t5⟩
        · exact .inl (toks_bad (skip_front hskip) (by rw [hlen k (by omega)]; exact k1) t3)
        · exact .inr ⟨_, toks_one (skip_front hskip) (by rw [hlen k (by omega)]; exact k1) t3 (by rw [hlen k (by omega)]; exact t4), t5⟩
      · obtain ⟨t1, -⟩ := htk o.n hol.1 (Nat.le_refl _)
        obtain ⟨t3, t4, t5⟩ := t1 rfl
        rw [← t5]
        exact toks_one (skip_front hskip) (by rw [hlen _ (Nat.le_refl _)]; exact hol.1) t3 (by rw [hlen _ (Nat.le_refl _)]; exact t4)
      · rw [Nat.add_assoc e sk]; rw [← h6, Nat.add_assoc e sk]
      · rw [Nat.add_assoc e sk]; rw [Nat.add_assoc e sk] at h4; exact h4
    · rw [ahead_bad q q2] at h4
      exact absurd h4 q2
theorem LoT.next (h : LoT L l j e) (hj : j < l.length) {t : Tk} (ht : l[j]? = some t) : e ≤ t.a ∧ t.a < L.length := by
  obtain ⟨p, n, t', hs⟩ := h.step hj
  rw [hs.at_] at ht
  cases ht
  rw [hs.a]; exact ⟨hs.le, hs.lt⟩
end
end Go.Proofs.YtagangneoibbcaaDoor
