import Derived.Test.YtnpeankmmojebaaGreatDoorJBB
import Derived.Test.YtnpeankmmojebaaGreatDoorJBE
import Derived.Laws.Rows
/- Layer 11: the shortest round as the reference looks for it, plainly. -/
set_option linter.unusedVariables false
namespace Go.Proofs.YtnpeankmmojebaaGreatDoor
set_option maxRecDepth 100000
set_option maxRecDepth 100000

theorem ite_iffX {P Q : Prop} [Decidable P] [Decidable Q] {α : Type} {a b : α} (h : P ↔ Q) : (if P then a else b) = if Q then a else b := by
  by_cases p : P
  · rw [if_pos p, if_pos (h.1 p)]
  · rw [if_neg p, if_neg (fun q => p (h.2 q))]
theorem nodup_len : ∀ (l m : List Nat), l.Nodup → (∀ x ∈ l, x ∈ m) → l.length ≤ m.length
  | [], _, _, _ => Nat.zero_le _
  | a :: l, m, hd, hs => by
    obtain ⟨h1, h2⟩ := List.nodup_cons.1 hd
    have ham := hs a (List.mem_cons_self ..)
    have := nodup_len l (m.erase a) h2 fun y hy => (List.mem_erase_of_ne (fun (k : y = a) => h1 (by rw [← k]; exact hy))).2 (hs y (List.mem_cons_of_mem _ hy))
    rw [List.length_erase_of_mem ham] at this
    have hp := List.length_pos_of_mem ham
    rw [List.length_cons]; omega
theorem choose_ltN {α : Type} {k : Nat} {P : Nat → α → Prop} [Inhabited α] (h : ∀ i, i < k → ∃ x, P i x) : ∃ f : Nat → α, ∀ i, i < k → P i (f i) := by
  classical
  refine ⟨fun i => if hi : i < k then Classical.choose (h i hi) else default, fun i hi => ?_⟩
  simp only [hi, dif_pos]
  exact Classical.choose_spec (h i hi)
section
variable {E : Eg} {n f j d v : Nat}
theorem DistIs.same {i j v a : Nat} (h : DistIs E i v a) (k : DistIs E j v a) : i = j := Nat.le_antisymm (h.2 _ k.1) (k.2 _ h.1)
theorem Way.fst (hE : EdOk E n) {k a b : Nat} (h : Way E k a b) : a < n := by
  cases h with
  | one e => exact (hE.lt _ e).1
  | cons e _ => exact (hE.lt _ e).1
theorem dist_down (h : DistIs E (j + d) v f) (hj : 0 < j) : ∃ y, DistIs E j y f := by
  induction d generalizing v with
  | zero => exact ⟨v, h⟩
  | succ d ih =>
    obtain ⟨y, -, hy⟩ := dist_next (j := j + d) h (by omega)
    exact ih hy
theorem dist_le (hE : EdOk E n) {k v : Nat} (h : DistIs E k v f) : k ≤ n := by
  obtain ⟨g, hg⟩ := choose_ltN (α := Nat) (k := k) (P := fun i x => DistIs E (i + 1) x f) fun i hi => by
    obtain ⟨d, hd⟩ : ∃ d, k = i + 1 + d := ⟨k - (i + 1), by omega⟩
    rw [hd] at h
    exact dist_down h (by omega)
  have := nodup_len ((List.range k).map g) (List.range n) (by
    rw [List.nodup_iff_pairwise_ne, List.pairwise_map]
    refine List.pairwise_lt_range.imp_of_mem fun {a b} ha hb hab e => ?_
    have h1 := hg a (List.mem_range.1 ha)
    have h2 := hg b (List.mem_range.1 hb)
    rw [e] at h1
    have := h1.same h2
    omega) fun x hx => by
      obtain ⟨i, hi, rfl⟩ := List.mem_map.1 hx
      exact List.mem_range.2 (Way.fst hE (hg i (List.mem_range.1 hi)).1)
  simpa using this
theorem way_dist {k v : Nat} (h : Way E k v f) : ∃ j, j ≤ k ∧ DistIs E j v f := by
  induction k using Nat.strongRecOn with
  | _ k ih =>
    by_cases q : ∃ i, i < k ∧ Way E i v f
    · obtain ⟨i, hi, hw⟩ := q
      obtain ⟨j, hj, hd⟩ := ih i hi hw
      exact ⟨j, by omega, hd⟩
    · exact ⟨k, Nat.le_refl _, h, fun i hw => by
        rcases Nat.lt_or_ge i k with h1 | h1
        · exact absurd ⟨i, h1, hw⟩ q
        · exact h1⟩
end

/-- How far each rank is, as it is counted: up to s edges. -/
def gI (d : List Int) (v : Nat) : Int := d.getD v (-1)
theorem gI_set {d : List Int} {v u : Nat} {x : Int} (hv : v < d.length) : gI (d.set v x) u = if u = v then x else gI d u := by
  unfold gI
  rw [List.getD_eq_getElem?_getD, List.getD_eq_getElem?_getD, List.getElem?_set]
  by_cases h : u = v
  · subst h; simp [hv]
  · rw [if_neg (Ne.symm h), if_neg h]
theorem gI_at {d : List Int} {v : Nat} {x : Int} (h : d[v]? = some x) : gI d v = x := by unfold gI; rw [List.getD_eq_getElem?_getD, h]; rfl
/-- Those that reach f by at most s edges have their number, the others -1. -/
structure Lev (E : Eg) (n f s : Nat) (d : List Int) : Prop where
  len : d.length = n
  aim : gI d f = 0
  low : ∀ v, -1 ≤ gI d v ∧ gI d v ≤ (s : Int)
  is : ∀ (v k : Nat), v ≠ f → 0 < k → (gI d v = (k : Int) ↔ k ≤ s ∧ DistIs E k v f)
  zero : ∀ v, v ≠ f → gI d v ≠ 0
open Classical in
/-- In round s, behind j of the edges. -/
structure LevJ (E : Eg) (n f s j : Nat) (d0 d : List Int) : Prop where
  len : d.length = n
  old : ∀ v, 0 ≤ gI d0 v → gI d v = gI d0 v
  new : ∀ v, gI d0 v = -1 → gI d v = if ∃ b, (v, b) ∈ E.take j ∧ gI d0 b = (s : Int) then (s : Int) + 1 else -1
theorem LevJ.start {E : Eg} {n f s : Nat} {d : List Int} (h : d.length = n) : LevJ E n f s 0 d d := ⟨h, fun _ _ => rfl, fun v hv => by rw [if_neg (by simp), hv]⟩
section
variable {E : Eg} {n f s j : Nat} {d0 d : List Int}
theorem LevJ.at_s (h : LevJ E n f s j d0 d) (hl : Lev E n f s d0) (b : Nat) : gI d b = (s : Int) ↔ gI d0 b = (s : Int) := by
  rcases (show gI d0 b < 0 ∨ 0 ≤ gI d0 b by omega) with k | k
  · have k1 : gI d0 b = -1 := by have := (hl.low b).1; omega
    rw [h.new b k1, k1]
    split <;> omega
  · rw [h.old b k]
theorem LevJ.neg (h : LevJ E n f s j d0 d) (hl : Lev E n f s d0) {a : Nat} (ha : gI d a < 0) : gI d a = -1 ∧ gI d0 a = -1 := by
  rcases (show gI d0 a < 0 ∨ 0 ≤ gI d0 a by omega) with k | k
  · have k1 : gI d0 a = -1 := by have := (hl.low a).1; omega
    refine ⟨?_, k1⟩
    rw [h.new a k1] at ha ⊢
    split at ha
    · omega
    · rename_i q; rw [if_neg q]
  · rw [h.old a k] at ha; omega
theorem LevJ.set (h : LevJ E n f s j d0 d) (hl : Lev E n f s d0) {a b : Nat} (he : E[j]? = some (a, b)) (hn : a < n) (hb : gI d b = (s : Int)) (ha : gI d a < 0) : LevJ E n f s (j + 1) d0 (d.set a ((s : Int) + 1)) := by
  obtain ⟨-, a0⟩ := h.neg hl ha
  have hb0 := (h.at_s hl b).1 hb
  refine ⟨by rw [List.length_set, h.len], fun v hv => ?_, fun v hv => ?_⟩
  · rw [gI_set (by rw [h.len]; exact hn), if_neg (fun e => by rw [e, a0] at hv; omega), h.old v hv]
  · rw [gI_set (by rw [h.len]; exact hn)]
    by_cases e : v = a
    · rw [if_pos e, if_pos ⟨b, by rw [List.take_add_one, he, e]; simp, hb0⟩]
    · rw [if_neg e, h.new v hv]
      have : (∃ b, (v, b) ∈ E.take j ∧ gI d0 b = (s : Int)) ↔ ∃ b, (v, b) ∈ E.take (j + 1) ∧ gI d0 b = (s : Int) := by
        rw [List.take_add_one, he]
        simp [e]
      exact @ite_iffX _ _ (Classical.propDecidable _) (Classical.propDecidable _) _ _ _ this
theorem LevJ.keep (h : LevJ E n f s j d0 d) (hl : Lev E n f s d0) {a b : Nat} (he : E[j]? = some (a, b)) (hk : gI d b ≠ (s : Int) ∨ 0 ≤ gI d a) : LevJ E n f s (j + 1) d0 d := by
  refine ⟨h.len, h.old, fun v hv => ?_⟩
  have hnew := h.new v hv
  by_cases e : v = a
  · subst e
    by_cases q : ∃ b, (v, b) ∈ E.take j ∧ gI d0 b = (s : Int)
    · rw [hnew, if_pos q, if_pos]
      obtain ⟨b', q1, q2⟩ := q
      exact ⟨b', by rw [List.take_add_one]; exact List.mem_append_left _ q1, q2⟩
    · rw [hnew, if_neg q, if_neg]
      rintro ⟨b', q1, q2⟩
      rw [List.take_add_one, he] at q1
      rcases List.mem_append.1 q1 with q3 | q3
      · exact q ⟨b', q3, q2⟩
      · have e2 : b' = b := by simpa using q3
        subst e2
        rw [hnew, if_neg q] at hk
        rcases hk with k | k
        · exact k ((h.at_s hl b').2 q2)
        · omega
  · rw [hnew]
    have : (∃ b, (v, b) ∈ E.take j ∧ gI d0 b = (s : Int)) ↔ ∃ b, (v, b) ∈ E.take (j + 1) ∧ gI d0 b = (s : Int) := by
      rw [List.take_add_one, he]
      simp [e]
    exact @ite_iffX _ _ (Classical.propDecidable _) (Classical.propDecidable _) _ _ _ this
theorem Lev.next (hE : EdOk E n) (hl : Lev E n f s d0) (h : LevJ E n f s E.length d0 d) : Lev E n f (s + 1) d := by
  have hnew := h.new
  rw [List.take_length] at hnew
  have haim : gI d f = 0 := by rw [h.old f (by rw [hl.aim]; exact Int.le_refl _), hl.aim]
  have hs : ∀ b, gI d0 b = (s : Int) ↔ (b = f ∧ s = 0) ∨ (b ≠ f ∧ 0 < s ∧ DistIs E s b f) := fun b => by
    by_cases e : b = f
    · subst e
      rw [hl.aim]
      constructor
      · intro q; exact .inl ⟨rfl, by omega⟩
      · rintro (⟨-, q⟩ | ⟨q, -⟩)
        · omega
        · exact absurd rfl q
    · constructor
      · intro q
        have h0 : 0 < s := by
          rcases Nat.eq_zero_or_pos s with z | z
          · subst z; exact absurd q (hl.zero b e)
          · exact z
        exact .inr ⟨e, h0, ((hl.is b s e h0).1 q).2⟩
      · rintro (⟨q, -⟩ | ⟨-, q, r⟩)
        · exact absurd q e
        · exact (hl.is b s e q).2 ⟨Nat.le_refl _, r⟩
  refine ⟨h.len, haim, fun v => ?_, fun v k hv hk => ?_, fun v hv => ?_⟩
  · rcases (show gI d0 v < 0 ∨ 0 ≤ gI d0 v by omega) with q | q
    · have q1 : gI d0 v = -1 := by have := (hl.low v).1; omega
      rw [hnew v q1]; split <;> constructor <;> omega
    · rw [h.old v q]; have := hl.low v; omega
  · rcases (show gI d0 v < 0 ∨ 0 ≤ gI d0 v by omega) with q | q
    · have q1 : gI d0 v = -1 := by have := (hl.low v).1; omega
      have hno : ∀ i, 0 < i → i ≤ s → ¬ DistIs E i v f := fun i hi hle hd => by
        have := (hl.is v i hv hi).2 ⟨hle, hd⟩
        omega
      rw [hnew v q1]
      constructor
      · intro e
        split at e
        · rename_i hx
          obtain ⟨b, hb, hb2⟩ := hx
          have hk1 : k = s + 1 := by omega
          subst hk1
          refine ⟨Nat.le_refl _, ?_⟩
          have hw : Way E (s + 1) v f := by
            rcases (hs b).1 hb2 with ⟨e1, e2⟩ | ⟨-, -, e2⟩
            · subst e1; subst e2; exact .one hb
            · exact .cons hb e2.1
          obtain ⟨i, hi, hd⟩ := way_dist hw
          rcases Nat.lt_or_ge s i with c | c
          · have : i = s + 1 := by omega
            rw [← this]; exact hd
          · exact absurd hd (hno i hd.1.pos c)
        · omega
      · rintro ⟨k1, k2⟩
        have hk1 : k = s + 1 := by
          rcases Nat.lt_or_ge s k with c | c
          · omega
          · exact absurd k2 (hno k hk c)
        subst hk1
        have hex : ∃ b, (v, b) ∈ E ∧ gI d0 b = (s : Int) := by
          rcases Nat.eq_zero_or_pos s with z | z
          · subst z
            cases k2.1 with
            | one he => exact ⟨f, he, (hs f).2 (.inl ⟨rfl, rfl⟩)⟩
            | cons he hw => exact absurd hw.pos (by omega)
          · obtain ⟨y, hy, hd⟩ := dist_next k2 z
            refine ⟨y, hy, (hs y).2 (.inr ⟨fun e => ?_, z, hd⟩)⟩
            subst e
            have := k2.2 1 (.one hy)
            omega
        rw [if_pos hex]; omega
    · rw [h.old v q, hl.is v k hv hk]
      constructor
      · rintro ⟨a, b⟩; exact ⟨by omega, b⟩
      · rintro ⟨a, b⟩
        refine ⟨?_, b⟩
        obtain ⟨i, hi⟩ : ∃ i : Nat, gI d0 v = (i : Int) := ⟨(gI d0 v).toNat, by omega⟩
        have hi0 : 0 < i := by
          rcases Nat.eq_zero_or_pos i with z | z
          · subst z; exact absurd hi (hl.zero v hv)
          · exact z
        have := (hl.is v i hv hi0).1 hi
        have := b.same this.2
        omega
  · rcases (show gI d0 v < 0 ∨ 0 ≤ gI d0 v by omega) with q | q
    · have q1 : gI d0 v = -1 := by have := (hl.low v).1; omega
      rw [hnew v q1]; split <;> omega
    · rw [h.old v q]; exact hl.zero v hv
/-- How far all are. -/
def FarIs (E : Eg) (n f : Nat) (d : List Int) : Prop := Lev E n f n d
theorem FarIs.dist (h : FarIs E n f d) (hE : EdOk E n) {v k : Nat} (hv : v ≠ f) (hk : 0 < k) : gI d v = (k : Int) ↔ DistIs E k v f := by
  rw [Lev.is h v k hv hk]
  exact ⟨fun q => q.2, fun q => ⟨dist_le hE q, q⟩⟩
theorem FarIs.there (h : FarIs E n f d) (hE : EdOk E n) {v : Nat} (hv : v ≠ f) (hg : 0 ≤ gI d v) : ∃ k : Nat, 0 < k ∧ gI d v = (k : Int) ∧ DistIs E k v f := by
  obtain ⟨i, hi⟩ : ∃ i : Nat, gI d v = (i : Int) := ⟨(gI d v).toNat, by omega⟩
  have hi0 : 0 < i := by
    rcases Nat.eq_zero_or_pos i with z | z
    · subst z; exact absurd hi (h.zero v hv)
    · exact z
  exact ⟨i, hi0, hi, (h.dist hE hv hi0).1 hi⟩
theorem Lev.first (hf : f < n) {d : List Int} (hl : d.length = n) (h : ∀ v, v < n → gI d v = if v = f then 0 else -1) : Lev E n f 0 d := by
  have h2 : ∀ v, v ≠ f → gI d v = -1 := fun v hv => by
    rcases Nat.lt_or_ge v n with q | q
    · rw [h v q, if_neg hv]
    · unfold gI; rw [List.getD_eq_getElem?_getD, List.getElem?_eq_none (by omega)]; rfl
  have h3 : gI d f = 0 := by rw [h f hf, if_pos rfl]
  refine ⟨hl, h3, fun v => ?_, fun v k hv hk => ?_, fun v hv => ?_⟩
  · by_cases e : v = f
    · rw [e, h3]; omega
    · rw [h2 v e]; omega
  · rw [h2 v hv]; constructor
    · intro q; omega
    · rintro ⟨q, -⟩; omega
  · rw [h2 v hv]; omega

/-- The shortest round through a rank, looked for among the first j. -/
structure Thr (E : Eg) (f j : Nat) (d : List Int) (b : Nat) : Prop where
  none : b = 0 → ∀ i, i < j → (f, i) ∈ E → gI d i < 0
  some : 0 < b → (∃ i, i < j ∧ (f, i) ∈ E ∧ gI d i = ((b - 1 : Nat) : Int)) ∧ ∀ i, i < j → (f, i) ∈ E → 0 ≤ gI d i → ((b - 1 : Nat) : Int) ≤ gI d i
theorem Thr.start : Thr E f 0 d 0 := ⟨fun _ i hi => absurd hi (Nat.not_lt_zero _), fun h => absurd h (by omega)⟩
theorem Thr.keep {b : Nat} (h : Thr E f j d b) (hk : ((f, j) ∈ E ∧ 0 ≤ gI d j) → 0 < b ∧ ((b : Nat) : Int) ≤ gI d j + 1) : Thr E f (j + 1) d b := by
  refine ⟨fun hb i hi he => ?_, fun hb => ⟨?_, fun i hi he h0 => ?_⟩⟩
  · rcases Nat.lt_or_ge i j with q | q
    · exact h.none hb i q he
    · have : i = j := by omega
      subst this
      rcases (show gI d i < 0 ∨ 0 ≤ gI d i by omega) with z | z
      · exact z
      · have := hk ⟨he, z⟩; omega
  · obtain ⟨i, h1, h2, h3⟩ := (h.some hb).1
    exact ⟨i, by omega, h2, h3⟩
  · rcases Nat.lt_or_ge i j with q | q
    · exact (h.some hb).2 i q he h0
    · have : i = j := by omega
      subst this
      have := hk ⟨he, h0⟩; omega
theorem Thr.new {b m : Nat} (h : Thr E f j d b) (he : (f, j) ∈ E) (hm : gI d j = (m : Int)) (hb : b = 0 ∨ m + 1 < b) : Thr E f (j + 1) d (m + 1) := by
  refine ⟨fun q => by omega, fun _ => ⟨⟨j, by omega, he, by rw [hm]; rfl⟩, fun i hi hi2 h0 => ?_⟩⟩
  rw [Nat.add_sub_cancel]
  rcases Nat.lt_or_ge i j with q | q
  · rcases hb with z | z
    · have := h.none z i q hi2; omega
    · have := (h.some (by omega)).2 i q hi2 h0; omega
  · have : i = j := by omega
    subst this
    rw [hm]; exact Int.le_refl _
/-- What the shortest round through a rank is. -/
theorem Thr.is {b : Nat} (hE : EdOk E n) (hF : FarIs E n f d) (h : Thr E f n d b) : (b = 0 → ∀ k, ¬ Way E k f f) ∧ (0 < b → DistIs E b f f) := by
  have key : ∀ k, Way E k f f → ∃ i, i < n ∧ (f, i) ∈ E ∧ 0 ≤ gI d i ∧ gI d i + 1 ≤ (k : Int) := fun k hw => by
    cases hw with
    | one he => exact absurd rfl (hE.ne _ he)
    | @cons k _ c _ he hw =>
      have hcf : c ≠ f := fun e => hE.ne _ he e.symm
      obtain ⟨j, hj, hd⟩ := way_dist hw
      have := (hF.dist hE hcf hd.1.pos).2 hd
      exact ⟨c, (hE.lt _ he).2, he, by omega, by omega⟩
  constructor
  · intro hb k hw
    obtain ⟨i, h1, h2, h3, -⟩ := key k hw
    have := h.none hb i h1 h2
    omega
  · intro hb
    obtain ⟨⟨i, h1, h2, h3⟩, h4⟩ := h.some hb
    have hif : i ≠ f := fun e => hE.ne _ h2 e.symm
    obtain ⟨k, hk0, hk, hd⟩ := hF.there hE hif (by omega)
    have hbk : b = k + 1 := by omega
    refine ⟨by rw [hbk]; exact .cons h2 hd.1, fun q hq => ?_⟩
    obtain ⟨i', g1, g2, g3, g4⟩ := key q hq
    have := h4 i' g1 g2 g3
    omega
end

/-- Among the ranks below j the first one with the shortest round: its length, and itself. -/
structure Sl (E : Eg) (j best f : Nat) : Prop where
  none : best = 0 → NoRd E j
  lt : 0 < best → f < j
  is : 0 < best → DistIs E best f f
  least : 0 < best → ∀ r, r < j → ∀ i, Way E i r r → best ≤ i
  first : 0 < best → ∀ r, r < f → ¬ Way E best r r
section
variable {E : Eg} {n j best f b : Nat}
theorem Sl.start : Sl E 0 0 f := ⟨fun _ r hr => absurd hr (Nat.not_lt_zero _), fun h => absurd h (by omega), fun h => absurd h (by omega), fun h => absurd h (by omega), fun h => absurd h (by omega)⟩
theorem Sl.keep (h : Sl E j best f) (hb : (b = 0 → ∀ k, ¬ Way E k j j) ∧ (0 < b → DistIs E b j j)) (hk : b = 0 ∨ (0 < best ∧ best ≤ b)) : Sl E (j + 1) best f := by
  refine ⟨fun h0 r hr k hw => ?_, fun h0 => by have := h.lt h0; omega, h.is, fun h0 r hr i hw => ?_, h.first⟩
  · rcases Nat.lt_or_ge r j with q | q
    · exact h.none h0 r q k hw
    · have : r = j := by omega
      subst this
      rcases hk with z | z
      · exact hb.1 z k hw
      · omega
  · rcases Nat.lt_or_ge r j with q | q
    · exact h.least h0 r q i hw
    · have : r = j := by omega
      subst this
      rcases hk with z | z
      · exact absurd hw (hb.1 z i)
      · rcases Nat.eq_zero_or_pos b with y | y
        · exact absurd hw (hb.1 y i)
        · have := (hb.2 y).2 i hw; omega
theorem Sl.new (h : Sl E j best f) (hb : (b = 0 → ∀ k, ¬ Way E k j j) ∧ (0 < b → DistIs E b j j)) (h0 : 0 < b) (hk : best = 0 ∨ b < best) : Sl E (j + 1) b j := by
  refine ⟨fun q => by omega, fun _ => Nat.lt_succ_self _, fun _ => hb.2 h0, fun _ r hr i hw => ?_, fun _ r hr hw => ?_⟩
  · rcases Nat.lt_or_ge r j with q | q
    · rcases hk with z | z
      · exact absurd hw (h.none z r q i)
      · rcases Nat.eq_zero_or_pos best with y | y
        · omega
        · have := h.least y r q i hw; omega
    · have : r = j := by omega
      subst this
      exact (hb.2 h0).2 i hw
  · rcases hk with z | z
    · exact h.none z r hr b hw
    · have := h.least (by omega) r hr b hw; omega
/-- The round goes on by the least rank that is near enough. -/
structure Cn (E : Eg) (n f k : Nat) (L : List Nat) (at_ left : Nat) : Prop where
  len : L.length + left = k
  hd : L[0]? = some f
  last : L[L.length - 1]? = some at_
  dist : DistIs E (left + 1) at_ f
  lt : ∀ r ∈ L, r < n
  chain : ∀ i x y, i + 1 < L.length → L[i]? = some x → L[i + 1]? = some y → ((x, y) ∈ E ∧ DistIs E (k - (i + 1)) y f) ∧ ∀ z, (x, z) ∈ E → DistIs E (k - (i + 1)) z f → y ≤ z
theorem Cn.start (h : Sl E n best f) (h0 : 0 < best) : Cn E n f best [f] f (best - 1) where
  len := by simp; omega
  hd := rfl
  last := rfl
  dist := by rw [show best - 1 + 1 = best by omega]; exact h.is h0
  lt r hr := by rw [List.mem_singleton.1 hr]; exact h.lt h0
  chain i x y hi := absurd hi (by simp)
theorem Cn.ne {k left at_ : Nat} {L : List Nat} (h : Cn E n f k L at_ left) (hk : DistIs E k f f) {u : Nat} (hl : left < k) (hd : DistIs E left u f) : u ≠ f := fun e => by
  subst e
  have := hk.2 _ hd.1
  omega
theorem Cn.found {k left at_ : Nat} {L : List Nat} (h : Cn E n f k L at_ left) (h0 : 0 < left) : ∃ u, (at_, u) ∈ E ∧ DistIs E left u f := dist_next h.dist h0
theorem Cn.next {k left at_ u : Nat} {L : List Nat} (hE : EdOk E n) (h : Cn E n f k L at_ (left + 1)) (hu : (at_, u) ∈ E) (he : DistIs E (left + 1) u f) (hf : ∀ z, (at_, z) ∈ E → DistIs E (left + 1) z f → u ≤ z) : Cn E n f k (L ++ [u]) u left := by
  have hl := (List.getElem?_eq_some_iff.1 h.hd).1
  have hlen := h.len
  refine ⟨by simp; omega, by rw [List.getElem?_append_left hl]; exact h.hd, by simp, he, fun r hm => ?_, fun i x y hi hx hy => ?_⟩
  · rcases List.mem_append.1 hm with k1 | k1
    · exact h.lt r k1
    · rw [List.mem_singleton.1 k1]; exact (hE.lt _ hu).2
  · rw [List.length_append, List.length_singleton] at hi
    rcases Nat.lt_or_ge (i + 1) L.length with h1 | h1
    · rw [List.getElem?_append_left (by omega)] at hx
      rw [List.getElem?_append_left h1] at hy
      exact h.chain i x y h1 hx hy
    · have ei : i = L.length - 1 := by omega
      rw [List.getElem?_append_left (by omega), ei, h.last] at hx
      have ey : L.length = i + 1 := by omega
      rw [← ey, List.getElem?_append_right (Nat.le_refl _), Nat.sub_self] at hy
      have hxa : at_ = x := Option.some.inj hx
      have hyu : u = y := by simpa using hy
      subst hxa hyu
      have e : k - (i + 1) = left + 1 := by omega
      rw [e]
      exact ⟨⟨hu, he⟩, hf⟩
theorem Cn.round {k at_ : Nat} {L : List Nat} (h : Cn E n f k L at_ 0) (hs : Sl E n k f) (h0 : 0 < k) : RoundIs E n L := by
  have hlen := h.len
  exact .inr ⟨f, k, hs.lt h0, (hs.is h0).1, fun r j hr hw => hs.least h0 r hr j hw, hs.first h0, by omega, h.hd, fun i x y hi => h.chain i x y (by omega)⟩
end
end Go.Proofs.YtnpeankmmojebaaGreatDoor

/- Layer 11: the law's write skew. -/
namespace Go.Proofs.YtnpeankmmojebaaGreatDoor
set_option maxRecDepth 100000
set_option maxRecDepth 100000
open Go.RowKit

def itX : ByteArray := ⟨#[120]⟩
def itY : ByteArray := ⟨#[121]⟩
def skewC : List Int := [1, 2]
def skewA : List Ac := [⟨1, false, itX, 0⟩, ⟨1, false, itY, 0⟩, ⟨2, false, itX, 0⟩, ⟨2, false, itY, 0⟩, ⟨1, true, itX, 0⟩, ⟨2, true, itY, 0⟩]
theorem sb_block {w : World} {g : Nat} {cs : List Value} {t : TypeId} (h : w.heap[g]? = some (.cells cs.toArray t (0, 0))) (h1 : ∀ u ∈ cs, u.oneCell' = true) : SB w (some ⟨g, 0, none⟩) cs.length cs :=
  ⟨rfl, h1, fun _ => ⟨g, 0, rfl, fun j u hj => by
    rw [cell_of_row _ _ _ _ _ _ h, Nat.zero_add]
    simpa using hj⟩⟩
set_option maxHeartbeats 16000000 in
theorem wlSkew (w : World) : Calls Tryz.prog 24 #[] w fun e w' => ∃ A c B d, e = .returned (histV A 2 c B 6 d) ∧ Hist w' A 2 c B 6 d skewC skewA ∧ Below w.heap.size w w' := by
  obtain ⟨X1, hX1⟩ : ∃ X, w.alloc (.cells #[.slice (some ⟨w.heap.size + 1, 0, none⟩) 2 2, .slice (some ⟨w.heap.size + 1 + 1, 0, none⟩) 6 6] 25) = X := ⟨_, rfl⟩
  obtain ⟨X2, hX2⟩ : ∃ X, X1.alloc (.cells #[.int .i64 1, .int .i64 2] 3) = X := ⟨_, rfl⟩
  obtain ⟨X3, hX3⟩ : ∃ X, X2.alloc (.cells #[.int .i64 1, .bool false, .string ⟨#[120]⟩, .int .i64 0, .int .i64 1, .bool false, .string ⟨#[121]⟩, .int .i64 0, .int .i64 2, .bool false, .string ⟨#[120]⟩, .int .i64 0, .int .i64 2, .bool false, .string ⟨#[121]⟩, .int .i64 0, .int .i64 1, .bool true, .string ⟨#[120]⟩, .int .i64 0, .int .i64 2, .bool true, .string ⟨#[121]⟩, .int .i64 0] 44) = X := ⟨_, rfl⟩
  have s1 : X1.heap.size = w.heap.size + 1 := by have := congrArg (fun W => W.heap.size) hX1; simpa using this.symm
  have s2 : X2.heap.size = w.heap.size + 1 + 1 := by have := congrArg (fun W => W.heap.size) hX2; rw [← s1]; simpa using this.symm
  have b1 : Below w.heap.size w X1 := hX1 ▸ alloc_below11 w _
  have b2 : Below X1.heap.size X1 X2 := hX2 ▸ alloc_below11 X1 _
  have b3 : Below X2.heap.size X2 X3 := hX3 ▸ alloc_below11 X2 _
  have r1 : X3.heap[w.heap.size]? = some (.cells #[.slice (some ⟨w.heap.size + 1, 0, none⟩) 2 2, .slice (some ⟨w.heap.size + 1 + 1, 0, none⟩) 6 6] 25 (0, 0)) :=
    (b3.block _ (by omega)).trans ((b2.block _ (by omega)).trans (hX1 ▸ heap_alloc_new w _))
  have r2 : X3.heap[w.heap.size + 1]? = some (.cells (numC skewC).toArray 3 (0, 0)) := by
    have : X2.heap[X1.heap.size]? = some (.cells (numC skewC).toArray 3 (0, 0)) := hX2 ▸ heap_alloc_new X1 _
    rw [s1] at this
    exact (b3.block _ (by omega)).trans this
  have r3 : X3.heap[w.heap.size + 1 + 1]? = some (.cells (cellsE acC skewA).toArray 44 (0, 0)) := by
    have : X3.heap[X2.heap.size]? = some (.cells (cellsE acC skewA).toArray 44 (0, 0)) := hX3 ▸ heap_alloc_new X2 _
    rw [s2] at this
    exact this
  have HW := Lib.hid (show ((w.alloc (.cells #[.slice (some ⟨w.heap.size + 1, 0, none⟩) 2 2, .slice (some ⟨w.heap.size + 1 + 1, 0, none⟩) 6 6] 25)).alloc (.cells #[.int .i64 1, .int .i64 2] 3)).alloc (.cells #[.int .i64 1, .bool false, .string ⟨#[120]⟩, .int .i64 0, .int .i64 1, .bool false, .string ⟨#[121]⟩, .int .i64 0, .int .i64 2, .bool false, .string ⟨#[120]⟩, .int .i64 0, .int .i64 2, .bool false, .string ⟨#[121]⟩, .int .i64 0, .int .i64 1, .bool true, .string ⟨#[120]⟩, .int .i64 0, .int .i64 2, .bool true, .string ⟨#[121]⟩, .int .i64 0] 44) = X3 by rw [hX1, hX2, hX3])
  have R1 := Lib.hid r1
  have R2 := Lib.hid r2
  have R3 := Lib.hid r3
  have BB := Lib.hid (below_next (below_next b1 b2) b3)
  clear hX1 hX2 hX3 s1 s2 b1 b2 b3 r1 r2 r3
  go_enter Tryz.func24, Tryz.ntmps24
  go_wp2
  rw [HW.out]
  refine bodyPost_ret (results_cell_row rfl _ _ w.heap.size 25 _ (0, 0) _ rfl R1.out Tryz.underlying25 rfl (by kernel_rfl)) rfl ?_
  refine ⟨_, _, _, _, rfl, ⟨rfl, rfl, sb_block R2.out (numC_one _), sb_block R3.out (cellsE_one acC_one _), ?_, ?_, by simp [maxLen], by simp [maxLen]⟩, BB.out⟩
  · intro x hx
    simp [skewC] at hx
    rcases hx with rfl | rfl <;> (unfold wfI; decide)
  · intro a ha
    simp [skewA] at ha
    rcases ha with rfl | rfl | rfl | rfl | rfl | rfl <;> exact ⟨by unfold wfI; decide, by unfold wfI; decide, by decide⟩
end Go.Proofs.YtnpeankmmojebaaGreatDoor
