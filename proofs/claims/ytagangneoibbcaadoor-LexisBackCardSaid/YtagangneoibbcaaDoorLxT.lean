/- Layer 12: lists of tokens in memory; Tokens over plain lists. -/
import Derived.Test.YtagangneoibbcaaDoorLxW
import Derived.Test.YtagangneoibbcaaDoorSRow
set_option linter.unusedVariables false
namespace Go.Proofs.YtagangneoibbcaaDoor
set_option maxRecDepth 100000
set_option maxRecDepth 100000
open Go.RowKit

/-- The cells of a list. -/
def cellsE {α : Type} (f : α → List Value) (l : List α) : List Value := l.flatMap f
section
variable {α : Type} {f : α → List Value} {s : Nat}
theorem cellsE_len (hf : ∀ x, (f x).length = s) (l : List α) : (cellsE f l).length = s * l.length := by
  induction l with
  | nil => rfl
  | cons x l ih => simp only [cellsE, List.flatMap_cons, List.length_append, List.length_cons] at ih ⊢; rw [ih, hf, Nat.mul_succ, Nat.add_comm]
theorem cellsE_app (a b : List α) : cellsE f (a ++ b) = cellsE f a ++ cellsE f b := by simp [cellsE]
theorem cellsE_one (h1 : ∀ x, ∀ u ∈ f x, u.oneCell' = true) (l : List α) : ∀ u ∈ cellsE f l, u.oneCell' = true := by
  intro u hu
  obtain ⟨x, -, hx⟩ := List.mem_flatMap.1 hu
  exact h1 x u hx
theorem cellsE_at (hf : ∀ x, (f x).length = s) : ∀ (l : List α) (j : Nat) (x : α), l[j]? = some x → ∀ (k : Nat) u, (f x)[k]? = some u → (cellsE f l)[s * j + k]? = some u
  | [], _, _, h, _, _, _ => by cases h
  | y :: l, 0, x, h, k, u, hu => by
    cases h
    have hk : k < (f y).length := (List.getElem?_eq_some_iff.1 hu).1
    simp only [cellsE, List.flatMap_cons, Nat.mul_zero, Nat.zero_add]
    rw [List.getElem?_append_left hk]; exact hu
  | y :: l, j + 1, x, h, k, u, hu => by
    have := cellsE_at hf l j x (by simpa using h) k u hu
    simp only [cellsE, List.flatMap_cons] at this ⊢
    rw [List.getElem?_append_right (by rw [hf, Nat.mul_succ]; omega), hf]
    rw [show s * (j + 1) + k - s = s * j + k by rw [Nat.mul_succ]; omega]
    exact this
theorem cellsE_take (hf : ∀ x, (f x).length = s) : ∀ (l : List α) (j : Nat), cellsE f (l.take j) = (cellsE f l).take (s * j)
  | [], j => by simp [cellsE]
  | x :: l, 0 => by simp [cellsE]
  | x :: l, j + 1 => by
    have := cellsE_take hf l j
    simp only [cellsE, List.take_succ_cons, List.flatMap_cons] at this ⊢
    rw [this, List.take_append, List.take_of_length_le (l := f x) (by rw [hf, Nat.mul_succ]; omega), hf, show s * (j + 1) - s = s * j by rw [Nat.mul_succ]; omega]
theorem cellsE_drop (hf : ∀ x, (f x).length = s) : ∀ (l : List α) (j : Nat), cellsE f (l.drop j) = (cellsE f l).drop (s * j)
  | [], j => by simp [cellsE]
  | x :: l, 0 => by simp [cellsE]
  | x :: l, j + 1 => by
    have := cellsE_drop hf l j
    simp only [cellsE, List.drop_succ_cons, List.flatMap_cons] at this ⊢
    rw [this, List.drop_append, show (f x).drop (s * (j + 1)) = [] from List.drop_eq_nil_of_le (by rw [hf, Nat.mul_succ]; omega), hf, show s * (j + 1) - s = s * j by rw [Nat.mul_succ]; omega, List.nil_append]
/-- The j-th of a list. -/
theorem SB.elE (hf : ∀ x, (f x).length = s) (hs : 0 < s) {w : World} {A : Option Addr} {L : List α} (h : SB w A (s * L.length) (cellsE f L)) {j : Nat} {x : α} (hp : L[j]? = some x) : ∃ g o, A = some ⟨g, o, none⟩ ∧ ∀ (k : Nat) u, (f x)[k]? = some u → w.cell? ⟨g, o + j * s + k, none⟩ = some u := by
  have hlt := (List.getElem?_eq_some_iff.1 hp).1
  obtain ⟨g, o, e, hc⟩ := h.cell (Nat.mul_pos hs (by omega))
  refine ⟨g, o, e, fun k u hu => ?_⟩
  have := hc _ u (cellsE_at hf L j x hp k u hu)
  rwa [Nat.mul_comm, ← Nat.add_assoc] at this
end
theorem run_store_cx (P : Program) (w : World) (a : Addr) (m : Mode) (k : FloatKind) (x y : Nat) : (store a (.complex k x y) m).run P w = stored P w a (.complex k x y) m := run_store P w a _ m rfl
def seT : SEl := ⟨22, 36, .agg #[.int .i64 0, .string ⟨#[]⟩, .int .i64 0, .int .i64 0, .bool false, .string ⟨#[]⟩, .complex .f64 0 0, .int .i64 0], 8, 88⟩
theorem seT_ok : seT.Ok := ⟨by kernel_rfl, by kernel_rfl, by kernel_rfl, by decide, by decide, by decide⟩
theorem Tk.len (x : Tk) : x.cells.length = 8 := rfl
theorem Tk.one (x : Tk) : ∀ u ∈ x.cells, u.oneCell' = true := by
  intro u hu
  simp [Tk.cells] at hu
  rcases hu with rfl | rfl | rfl | rfl | rfl | rfl | rfl | rfl <;> rfl
/-- A list of tokens that the call made. -/
def TL (base : Nat) (w : World) (v : Value) (l : List Tk) : Prop := SO seT base w v l.length (cellsE Tk.cells l)
theorem TL.nil (base : Nat) (w : World) : TL base w (.slice none 0 0) [] := SO.nil _ _ _
theorem SO.stays {E : SEl} {base n : Nat} {w w' : World} {v : Value} {vs : List Value} (h : SO E base w v n vs) (hk : ∀ k, v.ownBlock = some k → w'.heap[k]? = w.heap[k]?) : SO E base w' v n vs := ⟨own_stays h.own hk, h.len, h.one⟩
theorem TL.out {base g : Nat} {W W' : World} {v : Value} {l : List Tk} (h : TL base W v l) (o : Out (fun k => k = g) W W') (hg : g < base) : TL base W' v l :=
  SO.stays h fun k hk => o.block k (h.own.lt k hk).2 (by have := (h.own.lt k hk).1; omega)
theorem TL.below {base : Nat} {W W' : World} {v : Value} {l : List Tk} (h : TL base W v l) (hb : Below W.heap.size W W') : TL base W' v l := SO.below h hb
theorem TL.form {base : Nat} {w : World} {v : Value} {l : List Tk} (h : TL base w v l) : ∃ A c, v = .slice A l.length c ∧ SB w A (8 * l.length) (cellsE Tk.cells l) ∧ l.length ≤ c := by
  obtain ⟨A, c, e, hs, h1, -, -⟩ := SO.form h
  exact ⟨A, c, e, hs, h1⟩
theorem sb_tok (X : World) (x : Tk) : SB (X.alloc (.cells #[.int .i64 x.k, .string x.t, .int .i64 x.vk, .int .i64 x.vi, .bool false, .string x.vb, .complex .f64 0 0, .int .i64 (x.a : Nat)] 36)) (some ⟨X.heap.size, 0, none⟩) (seT.s * 1) (cellsE Tk.cells [x]) := by
  refine ⟨rfl, cellsE_one Tk.one _, fun _ => ⟨X.heap.size, 0, rfl, fun j u hj => ?_⟩⟩
  rw [cell_of_row _ _ _ _ _ _ (heap_alloc_new X _)]
  simpa [cellsE, Tk.cells] using hj
theorem Rd.tok {w : World} {g i : Nat} {s : ByteArray} {x : Tk} {f p : Int} (h : Rd w g s i x f p) : w.rangeAt g 2 [.int .i64 x.k, .string x.t, .int .i64 x.vk, .int .i64 x.vi, .bool false, .string x.vb, .complex .f64 0 0, .int .i64 (x.a : Nat)] := by
  intro j v hj
  rw [h.cell, ← hj]
  have hlt := (List.getElem?_eq_some_iff.1 hj).1
  simp only [List.length_cons, List.length_nil] at hlt
  unfold rdC
  match j, hlt with
  | 0, _ => rfl
  | 1, _ => rfl
  | 2, _ => rfl
  | 3, _ => rfl
  | 4, _ => rfl
  | 5, _ => rfl
  | 6, _ => rfl
  | 7, _ => rfl

theorem tw_pos (q : Int → Bool) (c : Int) (r : List Int) (h : q c = true) : 1 ≤ ((c :: r).takeWhile q).length := by rw [List.takeWhile_cons, if_pos h]; simp
theorem tw_le (q : Int → Bool) (R : List Int) : (R.takeWhile q).length ≤ R.length := (List.takeWhile_prefix q).length_le
theorem one_len (a : Nat) (c : Int) (r : List Int) (h : (oneP a (c :: r)).e = 0) : 1 ≤ (oneP a (c :: r)).n ∧ (oneP a (c :: r)).n ≤ (c :: r).length := by
  unfold oneP at h ⊢
  rw [chP_0] at h ⊢
  by_cases h1 : lowB c = true
  · rw [if_pos h1] at h ⊢
    unfold nameP at h ⊢
    by_cases h2 : 32 < ((c :: r).takeWhile innB).length
    · rw [if_pos h2] at h; exact absurd h (by decide)
    · rw [if_neg h2]
      exact ⟨tw_pos innB c r (by unfold innB; rw [h1]; rfl), tw_le _ _⟩
  · rw [if_neg h1] at h ⊢
    by_cases h3 : digB c = true
    · rw [if_pos h3] at h ⊢
      unfold intP at h ⊢
      by_cases h2 : badN (c :: r) = true
      · rw [if_pos h2] at h; exact absurd h (by decide)
      · rw [if_neg h2]
        exact ⟨tw_pos digB c r h3, tw_le _ _⟩
    · rw [if_neg h3] at h ⊢
      by_cases h4 : c = 34
      · rw [if_pos h4] at h ⊢
        unfold textP at h ⊢
        rw [List.drop_succ_cons, List.drop_zero] at h ⊢
        have hq := qtP_len _ r (Nat.le_refl _)
        rcases hqt : qtP r with ⟨_ | b, n⟩
        · rw [hqt] at h; exact absurd (show (123 : Int) = 0 from h) (by decide)
        · rw [hqt] at h hq; dsimp only at h hq ⊢
          by_cases h5 : 4096 < b.length
          · rw [if_pos h5] at h; exact absurd (show (3 : Int) = 0 from h) (by decide)
          · rw [if_neg h5]
            dsimp only
            rw [List.length_cons]
            omega
      · rw [if_neg h4] at h ⊢
        unfold signP at h ⊢
        rw [chP_0] at h ⊢
        by_cases h5 : signN c (chP (c :: r) 1) = 0
        · rw [if_pos h5] at h; exact absurd (show (120 : Int) = 0 from h) (by decide)
        · rw [if_neg h5]
          dsimp only
          have h6 : signN c (chP (c :: r) 1) ≤ 2 ∧ (signN c (chP (c :: r) 1) = 2 → chP (c :: r) 1 ≠ -1) := by
            unfold signN at h5 ⊢
            generalize chP (c :: r) 1 = d at h5 ⊢
            refine ⟨by (repeat' split) <;> omega, fun h2 => ?_⟩
            split at h2
            · omega
            · split at h2
              · split at h2
                · omega
                · omega
              · split at h2
                · split at h2
                  · omega
                  · omega
                · omega
          refine ⟨by omega, ?_⟩
          rcases r with _ | ⟨d, r⟩
          · have : chP [c] 1 = -1 := chP_end _ _ (by simp)
            rw [List.length_cons, List.length_nil]
            have := h6.2
            omega
          · simp only [List.length_cons]
            omega
theorem ahead_end {f a : Nat} {R : List Int} (h : skipN false R = R.length) : aheadP (f + 1) a R = ([], 0, 0) := by rw [aheadP, if_pos h]
theorem ahead_ok {f a : Nat} {R : List Int} (h : ¬ skipN false R = R.length) (h2 : (oneP (a + skipN false R) (R.drop (skipN false R))).e = 0) : aheadP (f + 1) a R = ((oneP (a + skipN false R) (R.drop (skipN false R))).tk :: (aheadP f (a + skipN false R + (oneP (a + skipN false R) (R.drop (skipN false R))).n) (R.drop (skipN false R + (oneP (a + skipN false R) (R.drop (skipN false R))).n))).1, (aheadP f (a + skipN false R + (oneP (a + skipN false R) (R.drop (skipN false R))).n) (R.drop (skipN false R + (oneP (a + skipN false R) (R.drop (skipN false R))).n))).2) := by rw [aheadP, if_neg h, if_pos h2]
theorem ahead_bad {f a : Nat} {R : List Int} (h : ¬ skipN false R = R.length) (h2 : ¬ (oneP (a + skipN false R) (R.drop (skipN false R))).e = 0) : aheadP (f + 1) a R = ([], a + skipN false R + (oneP (a + skipN false R) (R.drop (skipN false R))).n, (oneP (a + skipN false R) (R.drop (skipN false R))).e) := by rw [aheadP, if_neg h, if_neg h2]
/-- What is done, and what is left from place i on. -/
def LeftT (L : List Int) (done : List Tk) (i : Nat) : Prop := i ≤ L.length ∧ done.length ≤ i ∧ ∃ f, L.length < i + f ∧ toksP L = (done ++ (aheadP f i (L.drop i)).1, (aheadP f i (L.drop i)).2)
theorem LeftT.start (L : List Int) : LeftT L [] 0 := ⟨Nat.zero_le _, Nat.le_refl _, L.length + 1, by omega, by rw [List.drop_zero, List.nil_append]; rfl⟩
section
variable {L : List Int} {done : List Tk} {i : Nat}
theorem LeftT.fuel (h : LeftT L done i) : ∃ f, L.length < i + f + 1 ∧ toksP L = (done ++ (aheadP (f + 1) i (L.drop i)).1, (aheadP (f + 1) i (L.drop i)).2) := by
  obtain ⟨h1, h2, f, h3, h4⟩ := h
  match f, h3, h4 with
  | 0, h3, _ => exact absurd h3 (by omega)
  | f + 1, h3, h4 => exact ⟨f, by omega, h4⟩
theorem LeftT.ends (h : LeftT L done i) (he : i + skipN false (L.drop i) = L.length) : toksP L = (done, 0, 0) := by
  obtain ⟨f, -, h2⟩ := h.fuel
  rw [h2, ahead_end (by have := h.1; rw [List.length_drop]; omega), List.append_nil]
theorem LeftT.bad (h : LeftT L done i) (he : ¬ i + skipN false (L.drop i) = L.length) (hb : ¬ (oneP (i + skipN false (L.drop i)) (L.drop (i + skipN false (L.drop i)))).e = 0) : toksP L = (done, i + skipN false (L.drop i) + (oneP (i + skipN false (L.drop i)) (L.drop (i + skipN false (L.drop i)))).n, (oneP (i + skipN false (L.drop i)) (L.drop (i + skipN false (L.drop i)))).e) := by
  obtain ⟨f, -, h2⟩ := h.fuel
  rw [h2, ahead_bad (by have := h.1; rw [List.length_drop]; omega) (by rw [List.drop_drop]; exact hb), List.append_nil, List.drop_drop]
theorem one_lenL (a j : Nat) (hj : j < L.length) (h : (oneP a (L.drop j)).e = 0) : 1 ≤ (oneP a (L.drop j)).n ∧ j + (oneP a (L.drop j)).n ≤ L.length := by
  have e := chP_in hj
  rw [e] at h ⊢
  have := one_len a _ _ h
  rw [List.length_cons, List.length_drop] at this
  omega
theorem LeftT.ok (h : LeftT L done i) (he : ¬ i + skipN false (L.drop i) = L.length) (hb : (oneP (i + skipN false (L.drop i)) (L.drop (i + skipN false (L.drop i)))).e = 0) :
    LeftT L (done ++ [(oneP (i + skipN false (L.drop i)) (L.drop (i + skipN false (L.drop i)))).tk]) (i + skipN false (L.drop i) + (oneP (i + skipN false (L.drop i)) (L.drop (i + skipN false (L.drop i)))).n) ∧ i < i + skipN false (L.drop i) + (oneP (i + skipN false (L.drop i)) (L.drop (i + skipN false (L.drop i)))).n := by
  obtain ⟨f, h1, h2⟩ := h.fuel
  have h0 := h.1
  have hd := h.2.1
  have hk := skipN_le false (L.drop i)
  rw [List.length_drop] at hk
  have hl := one_lenL (L := L) (i + skipN false (L.drop i)) (i + skipN false (L.drop i)) (by omega) hb
  refine ⟨⟨hl.2, by rw [List.length_append, List.length_singleton]; omega, f, by omega, ?_⟩, by omega⟩
  rw [h2, ahead_ok (by rw [List.length_drop]; omega) (by rw [List.drop_drop]; exact hb), List.drop_drop, List.drop_drop]
  simp only [List.append_assoc, List.singleton_append]
  rw [Nat.add_assoc i]
end
end Go.Proofs.YtagangneoibbcaaDoor
