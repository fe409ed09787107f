/- Layer 12: tokens as they are written, one by one, a blank between, and what is read of that: over plain lists. -/
import Derived.Test.YtagangneoibbcaaDoorLxLp
set_option linter.unusedVariables false
namespace Go.Proofs.YtagangneoibbcaaDoor
set_option maxRecDepth 100000
set_option maxRecDepth 100000
open Go.RowKit

def hexD (d : Int) : Int := if d < 10 then 48 + d else 87 + d
/-- A byte as it stands between quotes. -/
def qbP (c : Int) : List Int := if plnB c then [c] else if c = 34 ∨ c = 92 then [92, c] else if c = 10 then [92, 110] else if c = 9 then [92, 116] else [92, 120, hexD (c / 16), hexD (c % 16)]
def quoteP (b : List Int) : List Int := 34 :: (b.flatMap qbP ++ [34])
theorem hexD_ok {d : Int} (h : 0 ≤ d ∧ d ≤ 15) : hexB (hexD d) = true ∧ hexV (hexD d) = d := by
  unfold hexD
  split
  · have h1 : digB (48 + d) = true := by unfold digB; rw [decide_eq_true_eq]; omega
    unfold hexB hexV
    rw [h1, if_pos rfl]
    exact ⟨rfl, by omega⟩
  · have h1 : digB (87 + d) = false := by unfold digB; rw [decide_eq_false_iff_not]; omega
    unfold hexB hexV
    rw [h1]
    simp only [Bool.false_or, decide_eq_true_eq, Bool.false_eq_true, if_false]
    omega
theorem qb_read {c : Int} (h : 0 ≤ c ∧ c ≤ 255) (r : List Int) : qtP (qbP c ++ r) = upQ [c] (qbP c).length (qtP r) := by
  unfold qbP
  by_cases h1 : plnB c = true
  · rw [if_pos h1]; exact qt_plain h1 r
  rw [if_neg h1]
  by_cases h2 : c = 34 ∨ c = 92
  · rw [if_pos h2]; exact qt_same h2 r
  rw [if_neg h2]
  by_cases h3 : c = 10
  · rw [if_pos h3, h3]; exact qt_n r
  rw [if_neg h3]
  by_cases h4 : c = 9
  · rw [if_pos h4, h4]; exact qt_t r
  rw [if_neg h4]
  obtain ⟨a1, a2⟩ := hexD_ok (d := c / 16) (by omega)
  obtain ⟨b1, b2⟩ := hexD_ok (d := c % 16) (by omega)
  have := qt_x a1 b1 r
  rw [a2, b2, show c / 16 * 16 + c % 16 = c by omega] at this
  exact this
theorem quote_read : ∀ (b : List Int), (∀ c ∈ b, 0 ≤ c ∧ c ≤ 255) → ∀ r, qtP (b.flatMap qbP ++ 34 :: r) = (some b, (b.flatMap qbP).length + 1)
  | [], _, r => by simp [qt_end]
  | c :: b, h, r => by
    have ih := quote_read b (fun x hx => h x (List.mem_cons_of_mem _ hx)) r
    rw [List.flatMap_cons, List.append_assoc, qb_read (h c (List.mem_cons_self ..)), ih]
    simp [upQ, Nat.add_assoc]
theorem text_read {b : List Int} (h : ∀ c ∈ b, 0 ≤ c ∧ c ≤ 255) (hl : b.length ≤ 4096) (a : Nat) (r : List Int) : textP a (quoteP b ++ r) = ⟨⟨3, ⟨#[]⟩, 3, 0, strOfNums b, a⟩, (quoteP b).length, 0⟩ := by
  unfold textP quoteP
  rw [List.cons_append, List.drop_succ_cons, List.drop_zero, List.append_assoc, List.singleton_append, quote_read b h r]
  dsimp only
  rw [if_neg (by omega)]
  simp only [List.length_cons, List.length_append, List.length_nil, Nat.add_comm 1]
/-- A number's digits. -/
def digP (n : Nat) : List Int := if h : n < 10 then [48 + (n : Int)] else digP (n / 10) ++ [48 + ((n % 10 : Nat) : Int)]
termination_by n
decreasing_by omega
theorem digP_small {n : Nat} (h : n < 10) : digP n = [48 + (n : Int)] := by rw [digP, dif_pos h]
theorem digP_big {n : Nat} (h : ¬ n < 10) : digP n = digP (n / 10) ++ [48 + ((n % 10 : Nat) : Int)] := by rw [digP, dif_neg h]
theorem digP_is (n : Nat) : numP (digP n) = n ∧ (∀ c ∈ digP n, digB c = true) ∧ 1 ≤ (digP n).length ∧ (1 < (digP n).length → 49 ≤ chP (digP n) 0) := by
  induction n using Nat.strongRecOn with
  | _ n ih =>
    by_cases h : n < 10
    · rw [digP_small h]
      refine ⟨?_, fun c hc => ?_, by simp, fun q => by simp at q⟩
      · simp only [numP, List.foldl_cons, List.foldl_nil]; omega
      · rw [List.mem_singleton.1 hc]; unfold digB; rw [decide_eq_true_eq]; omega
    · rw [digP_big h]
      obtain ⟨h1, h2, h3, h4⟩ := ih (n / 10) (by omega)
      refine ⟨?_, fun c hc => ?_, by simp, fun _ => ?_⟩
      · unfold numP at h1 ⊢
        rw [List.foldl_append, h1]
        simp only [List.foldl_cons, List.foldl_nil]
        omega
      · rcases List.mem_append.1 hc with k | k
        · exact h2 c k
        · rw [List.mem_singleton.1 k]; unfold digB; rw [decide_eq_true_eq]; omega
      · rcases hd : digP (n / 10) with _ | ⟨c, r⟩
        · rw [hd] at h3; simp at h3
        · rw [List.cons_append, chP_0]
          by_cases q : n / 10 < 10
          · rw [digP_small q] at hd
            injection hd with e1 e2
            omega
          · rw [hd, chP_0] at h4
            refine h4 ?_
            have := digP_big q
            rw [hd] at this
            have e := congrArg List.length this
            rw [List.length_append, List.length_singleton] at e
            have := (ih (n / 10 / 10) (by omega)).2.2.1
            omega
theorem tw_app (q : Int → Bool) (l r : List Int) (h : ∀ c ∈ l, q c = true) (h2 : q 32 = false) : (l ++ 32 :: r).takeWhile q = l := by
  induction l with
  | nil => rw [List.nil_append, List.takeWhile_cons, h2]; rfl
  | cons c l ih =>
    rw [List.cons_append, List.takeWhile_cons, if_pos (h c (List.mem_cons_self ..)), ih fun x hx => h x (List.mem_cons_of_mem _ hx)]
theorem chP_app {l r : List Int} {i : Nat} (h : i < l.length) : chP (l ++ r) i = chP l i := by
  unfold chP
  rw [List.getD_eq_getElem?_getD, List.getD_eq_getElem?_getD, List.getElem?_append_left h]
theorem chP_app2 {l r : List Int} (x : Int) : chP (l ++ x :: r) l.length = x := by
  unfold chP
  rw [List.getD_eq_getElem?_getD, List.getElem?_append_right (Nat.le_refl _), Nat.sub_self]; rfl
theorem int_read {n : Nat} (h : n < 9223372036854775808) (a : Nat) (r : List Int) : intP a (digP n ++ 32 :: r) = ⟨⟨2, ⟨#[]⟩, 1, n, ⟨#[]⟩, a⟩, (digP n).length, 0⟩ := by
  obtain ⟨h1, h2, h3, h4⟩ := digP_is n
  have ht : (digP n ++ 32 :: r).takeWhile digB = digP n := tw_app digB _ r h2 (by decide)
  have hb : badN (digP n ++ 32 :: r) = false := by
    unfold badN
    rw [ht, chP_app2, h1, chP_app (by omega)]
    simp only [Bool.or_eq_false_iff, Bool.and_eq_false_iff, decide_eq_false_iff_not]
    refine ⟨⟨⟨by decide, by decide⟩, by omega⟩, ?_⟩
    by_cases q : 1 < (digP n).length
    · left; have := h4 q; omega
    · right; exact q
  unfold intP
  rw [hb, ht, h1]
  rfl
/-- What a token is, apart from its place. -/
inductive Good : Tk → Prop
  | name {l : List Int} {a : Nat} : (∀ c ∈ l, innB c = true) → 1 ≤ l.length → lowB (chP l 0) = true → l.length ≤ 32 → Good ⟨1, strOfNums l, 0, 0, ⟨#[]⟩, a⟩
  | int {n a : Nat} : n < 9223372036854775808 → Good ⟨2, ⟨#[]⟩, 1, n, ⟨#[]⟩, a⟩
  | text {b : List Int} {a : Nat} : (∀ c ∈ b, 0 ≤ c ∧ c ≤ 255) → b.length ≤ 4096 → Good ⟨3, ⟨#[]⟩, 3, 0, strOfNums b, a⟩
  | sign {l : List Int} {a : Nat} : l.length = signN (chP l 0) (chP l 1) → 1 ≤ l.length → (∀ c ∈ l, 0 ≤ c ∧ c ≤ 255) → lowB (chP l 0) = false → digB (chP l 0) = false → chP l 0 ≠ 34 → Good ⟨4, strOfNums l, 0, 0, ⟨#[]⟩, a⟩
theorem tw_all (q : Int → Bool) : ∀ (R : List Int), ∀ c ∈ R.takeWhile q, q c = true
  | [], c, h => by simp at h
  | d :: r, c, h => by
    rw [List.takeWhile_cons] at h
    split at h
    · rename_i hd
      rcases List.mem_cons.1 h with e | e
      · rw [e]; exact hd
      · exact tw_all q r c e
    · simp at h
theorem tw_first (q : Int → Bool) {R : List Int} (h : 1 ≤ (R.takeWhile q).length) : chP (R.takeWhile q) 0 = chP R 0 := by
  rcases R with _ | ⟨d, r⟩
  · simp at h
  rw [List.takeWhile_cons] at h ⊢
  split at h
  · rename_i hd; rw [if_pos hd, chP_0, chP_0]
  · simp at h
theorem qt_bytes : ∀ (N : Nat) (R : List Int), R.length ≤ N → (∀ c ∈ R, 0 ≤ c ∧ c ≤ 255) → ∀ b m, qtP R = (some b, m) → ∀ c ∈ b, 0 ≤ c ∧ c ≤ 255
  | 0, R, h, _, b, m, e => by
    obtain rfl := List.eq_nil_of_length_eq_zero (Nat.le_zero.1 h)
    rw [qt_nil] at e; simp at e
  | N + 1, R, h, hb, b, m, e => by
    have up : ∀ (z : Int) (k : Nat) (r : List Int), (0 ≤ z ∧ z ≤ 255) → r.length ≤ N → (∀ c ∈ r, 0 ≤ c ∧ c ≤ 255) → upQ [z] k (qtP r) = (some b, m) → ∀ c ∈ b, 0 ≤ c ∧ c ≤ 255 := fun z k r hz hr hrb e => by
      obtain ⟨b', m', e', rfl, rfl⟩ := upQ_some e
      intro c hc
      rcases List.mem_append.1 hc with q | q
      · rw [List.mem_singleton.1 q]; exact hz
      · exact qt_bytes N r hr hrb b' m' e' c q
    rcases R with _ | ⟨c, r⟩
    · rw [qt_nil] at e; simp at e
    rw [List.length_cons] at h
    have hc := hb c (List.mem_cons_self ..)
    have hr := fun x hx => hb x (List.mem_cons_of_mem _ hx)
    by_cases h34 : c = 34
    · subst h34
      rw [qt_end] at e
      simp at e
      rw [e.1]; simp
    by_cases h92 : c = 92
    · subst h92
      rcases r with _ | ⟨d, r2⟩
      · rw [qt_esc0] at e; simp at e
      rw [List.length_cons] at h
      have hd := hr d (List.mem_cons_self ..)
      have hr2 := fun x hx => hr x (List.mem_cons_of_mem _ hx)
      by_cases hs : d = 34 ∨ d = 92
      · rw [qt_same hs] at e; exact up d 2 r2 hd (by omega) hr2 e
      by_cases hn : d = 110
      · subst hn; rw [qt_n] at e; exact up 10 2 r2 (by omega) (by omega) hr2 e
      by_cases ht : d = 116
      · subst ht; rw [qt_t] at e; exact up 9 2 r2 (by omega) (by omega) hr2 e
      by_cases hx : d = 120
      · subst hx
        rcases r2 with _ | ⟨a, r3⟩
        · rw [qt_x0] at e; simp at e
        cases ha : hexB a with
        | false => rw [qt_x1 ha] at e; simp at e
        | true =>
          rcases r3 with _ | ⟨l, r4⟩
          · rw [qt_x2 ha] at e; simp at e
          simp only [List.length_cons] at h
          cases hl : hexB l with
          | false => rw [qt_x3 ha hl] at e; simp at e
          | true =>
            rw [qt_x ha hl] at e
            have v1 := hexV_le ha
            have v2 := hexV_le hl
            exact up _ 4 r4 (by omega) (by omega) (fun x hx => hr2 x (List.mem_cons_of_mem _ (List.mem_cons_of_mem _ hx))) e
      · rw [qt_other (by omega) (by omega) hn ht hx] at e; simp at e
    cases hp : plnB c with
    | true => rw [qt_plain hp] at e; exact up c 1 r hc (by omega) hr e
    | false => rw [qt_bad hp h34 h92] at e; simp at e
theorem sign_stays {c d : Int} (h : signN c d = 1) (x : Int) (hx : x ≠ 61) (hx2 : c ≠ x ∨ (c ≠ 38 ∧ c ≠ 124)) : signN c x = 1 := by
  unfold signN at h ⊢
  by_cases c1 : c = 40 ∨ c = 41 ∨ c = 123 ∨ c = 125 ∨ c = 44 ∨ c = 59 ∨ c = 58 ∨ c = 43 ∨ c = 45 ∨ c = 42 ∨ c = 47 ∨ c = 37
  · rw [if_pos c1]
  · rw [if_neg c1] at h ⊢
    by_cases c2 : c = 61 ∨ c = 33 ∨ c = 60
    · rw [if_pos c2, if_neg hx]
    · rw [if_neg c2] at h
      exfalso
      split at h
      · split at h <;> omega
      · omega
theorem sign_le (c d : Int) : signN c d ≤ 2 := by unfold signN; (repeat' split) <;> omega
theorem one_good {a : Nat} {R : List Int} (hb : ∀ c ∈ R, 0 ≤ c ∧ c ≤ 255) (h : (oneP a R).e = 0) (hR : (oneP a R).n ≤ R.length) : Good (oneP a R).tk := by
  unfold oneP at h hR ⊢
  by_cases c1 : lowB (chP R 0) = true
  · rw [if_pos c1] at h ⊢
    unfold nameP at h ⊢
    by_cases h2 : 32 < (R.takeWhile innB).length
    · rw [if_pos h2] at h; exact absurd h (by decide)
    · rw [if_neg h2]
      have hl : 1 ≤ (R.takeWhile innB).length := by
        rcases R with _ | ⟨c, r⟩
        · exact absurd c1 (by decide)
        · exact tw_pos innB c r (by rw [chP_0] at c1; unfold innB; rw [c1]; rfl)
      exact .name (tw_all innB R) hl (by rw [tw_first innB hl]; exact c1) (by omega)
  rw [if_neg c1] at h hR ⊢
  by_cases c2 : digB (chP R 0) = true
  · rw [if_pos c2] at h ⊢
    unfold intP at h ⊢
    by_cases h2 : badN R = true
    · rw [if_pos h2] at h; exact absurd h (by decide)
    · rw [if_neg h2]
      refine .int ?_
      unfold badN at h2
      simp only [Bool.or_eq_true, not_or, decide_eq_true_eq, Bool.and_eq_true, not_and] at h2
      omega
  rw [if_neg c2] at h hR ⊢
  by_cases c3 : chP R 0 = 34
  · rw [if_pos c3] at h ⊢
    unfold textP at h ⊢
    rcases hq : qtP (R.drop 1) with ⟨_ | b, n⟩
    · rw [hq] at h; exact absurd (show (123 : Int) = 0 from h) (by decide)
    · rw [hq] at h
      dsimp only at h ⊢
      by_cases h5 : 4096 < b.length
      · rw [if_pos h5] at h; exact absurd (show (3 : Int) = 0 from h) (by decide)
      · rw [if_neg h5]
        exact .text (qt_bytes _ _ (Nat.le_refl _) (fun c hc => hb c (List.mem_of_mem_drop hc)) b n hq) (by omega)
  rw [if_neg c3] at h hR ⊢
  unfold signP at h hR ⊢
  by_cases h2 : signN (chP R 0) (chP R 1) = 0
  · rw [if_pos h2] at h; exact absurd h (by decide)
  · rw [if_neg h2] at hR ⊢
    dsimp only at hR
    have hle := sign_le (chP R 0) (chP R 1)
    generalize hN : signN (chP R 0) (chP R 1) = N at *
    have hl : (R.take N).length = N := by rw [List.length_take]; omega
    have e0 : chP (R.take N) 0 = chP R 0 := chP_take (by omega)
    refine .sign ?_ (by rw [hl]; omega) (fun c hc => hb c (List.mem_of_mem_take hc)) (by rw [e0]; simpa using c1) (by rw [e0]; simpa using c2) (by rw [e0]; exact c3)
    rw [hl, e0]
    rcases Nat.lt_or_ge 1 N with q | q
    · rw [chP_take q, hN]
    · have : N = 1 := by omega
      rw [chP_end (R.take N) 1 (by rw [hl]; omega), this]
      rw [this] at hN
      exact (sign_stays hN (-1) (by decide) (by
        by_cases q : chP R 0 = -1
        · right; omega
        · left; exact q)).symm
theorem ahead_good : ∀ (f a : Nat) (R : List Int), (∀ c ∈ R, 0 ≤ c ∧ c ≤ 255) → ∀ x ∈ (aheadP f a R).1, Good x
  | 0, _, _, _, x, hx => by simp [aheadP] at hx
  | f + 1, a, R, hb, x, hx => by
    by_cases h : skipN false R = R.length
    · rw [ahead_end h] at hx; simp at hx
    · by_cases h2 : (oneP (a + skipN false R) (R.drop (skipN false R))).e = 0
      · rw [ahead_ok h h2] at hx
        have hl := one_lenL (L := R) (a + skipN false R) (skipN false R) (by have := skipN_le false R; omega) h2
        rcases List.mem_cons.1 hx with e | e
        · rw [e]
          exact one_good (fun c hc => hb c (List.mem_of_mem_drop hc)) h2 (by rw [List.length_drop]; omega)
        · exact ahead_good f _ _ (fun c hc => hb c (List.mem_of_mem_drop hc)) x e
      · rw [ahead_bad h h2] at hx; simp at hx

/-- A token as it is written. -/
def wrP (x : Tk) : List Int := if x.k = 2 then digP x.vi.toNat else if x.k = 3 then quoteP (strB x.vb) else strB x.t
/-- The same but for its place. -/
def Tk.same (x y : Tk) : Prop := x.k = y.k ∧ x.t = y.t ∧ x.vk = y.vk ∧ x.vi = y.vi ∧ x.vb = y.vb
theorem one_read {x : Tk} (h : Good x) (a : Nat) (r : List Int) : ∃ y, oneP a (wrP x ++ 32 :: r) = ⟨y, (wrP x).length, 0⟩ ∧ y.same x ∧ 1 ≤ (wrP x).length ∧ gapB (chP (wrP x) 0) = false ∧ chP (wrP x) 0 ≠ 35 := by
  cases h with
  | @name l a0 h1 h2 h3 h4 =>
    have hbytes : ∀ c ∈ l, 0 ≤ c ∧ c ≤ 255 := fun c hc => by
      have := h1 c hc
      unfold innB lowB digB at this
      simp only [Bool.or_eq_true, decide_eq_true_eq] at this
      omega
    have e : wrP ⟨1, strOfNums l, 0, 0, ⟨#[]⟩, a0⟩ = l := by
      unfold wrP
      rw [if_neg (show ¬ (1 : Int) = 2 by decide), if_neg (show ¬ (1 : Int) = 3 by decide)]
      exact strB_nums12 l hbytes
    have ht : (l ++ 32 :: r).takeWhile innB = l := tw_app innB l r h1 (by decide)
    rw [e]
    refine ⟨⟨1, strOfNums l, 0, 0, ⟨#[]⟩, a⟩, ?_, ⟨rfl, rfl, rfl, rfl, rfl⟩, h2, ?_, ?_⟩
    · unfold oneP
      rw [chP_app (by omega), if_pos h3]
      unfold nameP
      rw [ht, if_neg (by omega)]
    · unfold lowB at h3; rw [decide_eq_true_eq] at h3; unfold gapB; rw [decide_eq_false_iff_not]; omega
    · unfold lowB at h3; rw [decide_eq_true_eq] at h3; omega
  | @int n a0 h1 =>
    obtain ⟨d1, d2, d3, d4⟩ := digP_is n
    have e : wrP ⟨2, ⟨#[]⟩, 1, n, ⟨#[]⟩, a0⟩ = digP n := by
      unfold wrP
      rw [if_pos rfl]; rfl
    have hd : digB (chP (digP n) 0) = true := d2 _ (by
      rcases hq : digP n with _ | ⟨c, r⟩
      · rw [hq] at d3; simp at d3
      · rw [chP_0]; exact List.mem_cons_self ..)
    have hd2 := hd
    unfold digB at hd2
    rw [decide_eq_true_eq] at hd2
    rw [e]
    refine ⟨⟨2, ⟨#[]⟩, 1, n, ⟨#[]⟩, a⟩, ?_, ⟨rfl, rfl, rfl, rfl, rfl⟩, d3, ?_, by omega⟩
    · unfold oneP
      rw [chP_app (by omega), if_neg (by unfold lowB; rw [decide_eq_true_eq]; omega), if_pos hd]
      exact int_read h1 a r
    · unfold gapB; rw [decide_eq_false_iff_not]; omega
  | @text b a0 h1 h2 =>
    have e : wrP ⟨3, ⟨#[]⟩, 3, 0, strOfNums b, a0⟩ = quoteP b := by
      unfold wrP
      rw [if_neg (show ¬ (3 : Int) = 2 by decide), if_pos rfl]
      show quoteP (strB (strOfNums b)) = _
      rw [strB_nums12 b h1]
    rw [e]
    have e0 : chP (quoteP b) 0 = 34 := rfl
    refine ⟨⟨3, ⟨#[]⟩, 3, 0, strOfNums b, a⟩, ?_, ⟨rfl, rfl, rfl, rfl, rfl⟩, by simp [quoteP], by rw [e0]; decide, by rw [e0]; decide⟩
    unfold oneP
    rw [chP_app (by simp [quoteP]), e0, if_neg (by decide), if_neg (by decide), if_pos rfl]
    exact text_read h1 h2 a _
  | @sign l a0 h1 h2 h3 h4 h5 h6 =>
    have e : wrP ⟨4, strOfNums l, 0, 0, ⟨#[]⟩, a0⟩ = l := by
      unfold wrP
      rw [if_neg (show ¬ (4 : Int) = 2 by decide), if_neg (show ¬ (4 : Int) = 3 by decide)]
      exact strB_nums12 l h3
    have hle := sign_le (chP l 0) (chP l 1)
    have hs : signN (chP (l ++ 32 :: r) 0) (chP (l ++ 32 :: r) 1) = l.length := by
      rw [chP_app (show 0 < l.length by omega)]
      rcases Nat.lt_or_ge 1 l.length with q | q
      · rw [chP_app q, h1]
      · have hl1 : l.length = 1 := by omega
        have : chP (l ++ 32 :: r) 1 = 32 := by have := chP_app2 (l := l) (r := r) 32; rwa [hl1] at this
        rw [this, hl1]
        refine sign_stays (h1.symm.trans hl1) 32 (by decide) ?_
        by_cases q : chP l 0 = 32
        · right; omega
        · left; exact q
    rw [e]
    have hk : chP l 0 = 40 ∨ chP l 0 = 41 ∨ chP l 0 = 123 ∨ chP l 0 = 125 ∨ chP l 0 = 44 ∨ chP l 0 = 59 ∨ chP l 0 = 58 ∨ chP l 0 = 43 ∨ chP l 0 = 45 ∨ chP l 0 = 42 ∨ chP l 0 = 47 ∨ chP l 0 = 37 ∨ chP l 0 = 61 ∨ chP l 0 = 33 ∨ chP l 0 = 60 ∨ chP l 0 = 38 ∨ chP l 0 = 124 := by
      rw [h1] at h2
      unfold signN at h2
      generalize chP l 0 = c at h2
      split at h2
      · omega
      · split at h2
        · omega
        · split at h2
          · omega
          · omega
    refine ⟨⟨4, strOfNums l, 0, 0, ⟨#[]⟩, a⟩, ?_, ⟨rfl, rfl, rfl, rfl, rfl⟩, h2, by unfold gapB; rw [decide_eq_false_iff_not]; omega, by omega⟩
    unfold oneP
    rw [chP_app (show 0 < l.length by omega), if_neg (by rw [h4]; decide), if_neg (by rw [h5]; decide), if_neg h6]
    unfold signP
    rw [hs, if_neg (by omega), List.take_left]
/-- Tokens as they are written, a blank behind each. -/
def joinP (l : List Tk) : List Int := l.flatMap fun x => wrP x ++ [32]
theorem joinP_cons (x : Tk) (l : List Tk) : joinP (x :: l) = wrP x ++ 32 :: joinP l := by simp [joinP]
theorem joinP_snoc (l : List Tk) (x : Tk) : joinP (l ++ [x]) = joinP l ++ wrP x ++ [32] := by simp [joinP]
theorem skip_join {l : List Tk} (h : ∀ x ∈ l, Good x) : skipN false (joinP l) = 0 := by
  rcases l with _ | ⟨x, l⟩
  · rfl
  · obtain ⟨y, -, -, h1, h2, h3⟩ := one_read (h x (List.mem_cons_self ..)) 0 (joinP l)
    rw [joinP_cons]
    rcases hw : wrP x with _ | ⟨c, r⟩
    · rw [hw] at h1; simp at h1
    · rw [hw, chP_0] at h2 h3
      rw [List.cons_append]
      exact skip_tok h2 h3 _
theorem ahead_join : ∀ (l : List Tk) (f a : Nat) (bl : List Int), bl = [] ∨ bl = [32] → (∀ x ∈ l, Good x) → (bl ++ joinP l).length < f → (aheadP f a (bl ++ joinP l)).2.2 = 0 ∧ (aheadP f a (bl ++ joinP l)).1.length = l.length ∧
    ∀ (i : Nat) x y, l[i]? = some x → (aheadP f a (bl ++ joinP l)).1[i]? = some y → y.same x
  | [], f, a, bl, hb, _, hf => by
    obtain ⟨f, rfl⟩ : ∃ f', f = f' + 1 := ⟨f - 1, by omega⟩
    have : skipN false (bl ++ joinP []) = (bl ++ joinP []).length := by rcases hb with rfl | rfl <;> rfl
    rw [ahead_end this]
    exact ⟨rfl, rfl, fun i x y h => by simp at h⟩
  | x :: l, f, a, bl, hb, hg, hf => by
    obtain ⟨f, rfl⟩ : ∃ f', f = f' + 1 := ⟨f - 1, by omega⟩
    have hgx := hg x (List.mem_cons_self ..)
    have hsk : skipN false (bl ++ joinP (x :: l)) = bl.length := by
      have := skip_join hg
      rcases hb with rfl | rfl
      · exact this
      · rw [List.singleton_append, skip_gap (by decide), this]; rfl
    obtain ⟨y, h1, h2, h3, -⟩ := one_read hgx (a + bl.length) (joinP l)
    have hdr : (bl ++ joinP (x :: l)).drop bl.length = wrP x ++ 32 :: joinP l := by rw [List.drop_left, joinP_cons]
    have hdr2 : (bl ++ joinP (x :: l)).drop (bl.length + (wrP x).length) = [32] ++ joinP l := by
      rw [← List.drop_drop, hdr, List.drop_left]; rfl
    have hlen : (bl ++ joinP (x :: l)).length = bl.length + ((wrP x).length + 1 + (joinP l).length) := by
      rw [joinP_cons, List.length_append, List.length_append, List.length_cons]; omega
    obtain ⟨i1, i2, i3⟩ := ahead_join l f (a + bl.length + (wrP x).length) [32] (.inr rfl) (fun z hz => hg z (List.mem_cons_of_mem _ hz)) (by rw [List.length_append, List.length_singleton]; omega)
    rw [ahead_ok (by rw [hsk, hlen]; omega) (by rw [hsk, hdr, h1])]
    simp only [hsk, hdr, h1, hdr2]
    refine ⟨i1, by rw [List.length_cons, List.length_cons, i2], fun i x' y' e1 e2 => ?_⟩
    rcases i with _ | i
    · rw [List.getElem?_cons_zero] at e1 e2
      cases e1
      cases e2
      exact h2
    · rw [List.getElem?_cons_succ] at e1 e2
      exact i3 i x' y' e1 e2
/-- What is read of tokens as they are written. -/
theorem toks_join {l : List Tk} (h : ∀ x ∈ l, Good x) : (toksP (joinP l)).2.2 = 0 ∧ (toksP (joinP l)).1.length = l.length ∧ ∀ (i : Nat) x y, l[i]? = some x → (toksP (joinP l)).1[i]? = some y → y.same x := by
  have := ahead_join l ((joinP l).length + 1) 0 [] (.inl rfl) h (by simp)
  exact this
end Go.Proofs.YtagangneoibbcaaDoor
