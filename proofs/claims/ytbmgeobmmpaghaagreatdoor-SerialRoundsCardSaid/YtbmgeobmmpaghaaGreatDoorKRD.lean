/- A region that draws its order, whose operations read and whose callees lay new memory alone, walked in the order of the text, what follows behind a structure (operations that are struck by their guard are not unfolded ahead of their turn). -/
import Derived.Test.YtbmgeobmmpaghaaGreatDoorMem
import Derived.Lib.QuietBelow
import Derived.Deep.MidRow
import Derived.Test.YtbmgeobmmpaghaaGreatDoorSeRp
import Derived.Test.YtbmgeobmmpaghaaGreatDoorKAE
import Derived.BigQuiet
import Derived.Deep.QuietTactic
import Derived.Test.YtbmgeobmmpaghaaGreatDoorKNR
import Derived.Test.YtbmgeobmmpaghaaGreatDoorKAD
import Derived.Deep.CutRange
set_option linter.unusedVariables false
namespace Go.Proofs.YtbmgeobmmpaghaaGreatDoor
open Go.RowKit Go.Sort

structure HidS (p : Prop) : Prop where
  out : p
theorem wp_region_quietH {P : Program} {id : Nat} {Q : Exit → Act → World → Prop} {a : Act} {w : World} {l : List Oper} (hm : P.follows .mixedOrders = true) (hB : Region.lexB .any l.toArray = true)
    (h : HidS (wpQuiet P l.toArray (fun w' => ∃ p : Regrown, w' = grow (redrawn w p.d) p.os) (fun a' => ∀ w', (∃ p : Regrown, w' = grow (redrawn w p.d) p.os) → Q .normal a' w') l a)) : (Code.region id l.toArray true).wp P Q a w := wp_region_quiet_below hm hB h.out
section
variable {P : Program} {ops : Array Oper} {C : World → Prop} {Q : Act → Prop} {a : Act} {o : Oper} {rest : List Oper}
theorem wpQuiet_stepH (h : ∀ K : Act → Prop, (∀ a, HidS (wpQuiet P ops C Q rest a) → K a) → if Region.wanted o (yielded ops a.tmps) then o.quiet P a C K else K (a.put o.dst undef)) : HidS (wpQuiet P ops C Q (o :: rest) a) := ⟨h _ (fun _ h => h.out)⟩
theorem wpQuiet_nilH (h : Q a) : HidS (wpQuiet P ops C Q [] a) := ⟨h⟩
theorem wpQuiet_loadH (hw : Region.wanted o (yielded ops a.tmps) = true) (ty : TypeId) (x : Operand) (ho : o.op = .load ty x)
    (b off : Nat) (hx : a.eval x = .pointer (some ⟨b, off, none⟩)) (cs : List Value) (d : TypeDesc) (hc : ∀ w, C w → w.rangeAt b off cs) (hu : P.underlying ty = some d) (hd : d.isRow = true) (hi : (P.info? ty).map (·.size) = some cs.length)
    (h : HidS (wpQuiet P ops C Q rest (a.put o.dst (.agg cs.toArray)))) : HidS (wpQuiet P ops C Q (o :: rest) a) := by
  refine ⟨?_⟩
  rw [wpQuiet, if_pos hw]
  refine ⟨_, fun w hw' => ?_, h.out⟩
  unfold Oper.quietAt execOp
  simp only [ho, hx, Instr.loadAt, Instr.sureAddr, Sem.run_bind, Sem.run_pure, Result.andThen_ok, run_loadVar_mid w b off ty cs d (hc w hw') hu hd hi]
  exact ⟨rfl, rfl⟩
end
theorem range_regrownH {w : World} {b o : Nat} {cs : List Value} (h : w.rangeAt b o cs) (w' : World) (hw : ∃ p : Regrown, w' = grow (redrawn w p.d) p.os) : w'.rangeAt b o cs := by
  obtain ⟨p, rfl⟩ := hw
  exact fun i v hv => cell_regrown (h i v hv) _ _
end Go.Proofs.YtbmgeobmmpaghaaGreatDoor

namespace Go.Proofs.YtbmgeobmmpaghaaGreatDoor
set_option maxRecDepth 100000
set_option maxRecDepth 100000

theorem ite_iffX {P Q : Prop} [Decidable P] [Decidable Q] {α : Type} {a b : α} (h : P ↔ Q) : (if P then a else b) = if Q then a else b := by
  by_cases p : P
  · rw [if_pos p, if_pos (h.1 p)]
  · rw [if_neg p, if_neg (fun q => p (h.2 q))]
theorem nodup_len : ∀ (l m : List Nat), l.Nodup → (∀ x ∈ l, x ∈ m) → l.length ≤ m.length
  | [], _, _, _ => Nat.zero_le _
  | a :: l, m, hd, hs => by
    obtain ⟨h1, h2⟩ := List.nodup_cons.1 hd
    have ham := hs a (List.mem_cons_self ..)
    have := nodup_len l (m.erase a) h2 fun y hy => (List.mem_erase_of_ne (fun (k : y = a) => h1 (by rw [← k]; exact hy))).2 (hs y (List.mem_cons_of_mem _ hy))
    rw [List.length_erase_of_mem ham] at this
    have hp := List.length_pos_of_mem ham
    rw [List.length_cons]; omega
theorem choose_ltN {α : Type} {k : Nat} {P : Nat → α → Prop} [Inhabited α] (h : ∀ i, i < k → ∃ x, P i x) : ∃ f : Nat → α, ∀ i, i < k → P i (f i) := by
  classical
  refine ⟨fun i => if hi : i < k then Classical.choose (h i hi) else default, fun i hi => ?_⟩
  simp only [hi, dif_pos]
  exact Classical.choose_spec (h i hi)
section
variable {E : Eg} {n f j d v : Nat}
theorem DistIs.same {i j v a : Nat} (h : DistIs E i v a) (k : DistIs E j v a) : i = j := Nat.le_antisymm (h.2 _ k.1) (k.2 _ h.1)
theorem Way.fst (hE : EdOk E n) {k a b : Nat} (h : Way E k a b) : a < n := by
  cases h with
  | one e => exact (hE.lt _ e).1
  | cons e _ => exact (hE.lt _ e).1
theorem dist_down (h : DistIs E (j + d) v f) (hj : 0 < j) : ∃ y, DistIs E j y f := by
  induction d generalizing v with
  | zero => exact ⟨v, h⟩
  | succ d ih =>
    obtain ⟨y, -, hy⟩ := dist_next (j := j + d) h (by omega)
    exact ih hy
theorem dist_le (hE : EdOk E n) {k v : Nat} (h : DistIs E k v f) : k ≤ n := by
  obtain ⟨g, hg⟩ := choose_ltN (α := Nat) (k := k) (P := fun i x => DistIs E (i + 1) x f) fun i hi => by
    obtain ⟨d, hd⟩ : ∃ d, k = i + 1 + d := ⟨k - (i + 1), by omega⟩
    rw [hd] at h
    exact dist_down h (by omega)
  have := nodup_len ((List.range k).map g) (List.range n) (by
    rw [List.nodup_iff_pairwise_ne, List.pairwise_map]
    refine List.pairwise_lt_range.imp_of_mem fun {a b} ha hb hab e => ?_
    have h1 := hg a (List.mem_range.1 ha)
    have h2 := hg b (List.mem_range.1 hb)
    rw [e] at h1
    have := h1.same h2
    omega) fun x hx => by
      obtain ⟨i, hi, rfl⟩ := List.mem_map.1 hx
      exact List.mem_range.2 (Way.fst hE (hg i (List.mem_range.1 hi)).1)
  simpa using this
theorem way_dist {k v : Nat} (h : Way E k v f) : ∃ j, j ≤ k ∧ DistIs E j v f := by
  induction k using Nat.strongRecOn with
  | _ k ih =>
    by_cases q : ∃ i, i < k ∧ Way E i v f
    · obtain ⟨i, hi, hw⟩ := q
      obtain ⟨j, hj, hd⟩ := ih i hi hw
      exact ⟨j, by omega, hd⟩
    · exact ⟨k, Nat.le_refl _, h, fun i hw => by
        rcases Nat.lt_or_ge i k with h1 | h1
        · exact absurd ⟨i, h1, hw⟩ q
        · exact h1⟩
end

/-- How far each rank is, as it is counted: up to s edges. -/
def gI (d : List Int) (v : Nat) : Int := d.getD v (-1)
theorem gI_set {d : List Int} {v u : Nat} {x : Int} (hv : v < d.length) : gI (d.set v x) u = if u = v then x else gI d u := by
  unfold gI
  rw [List.getD_eq_getElem?_getD, List.getD_eq_getElem?_getD, List.getElem?_set]
  by_cases h : u = v
  · subst h; simp [hv]
  · rw [if_neg (Ne.symm h), if_neg h]
theorem gI_at {d : List Int} {v : Nat} {x : Int} (h : d[v]? = some x) : gI d v = x := by unfold gI; rw [List.getD_eq_getElem?_getD, h]; rfl
/-- Those that reach f by at most s edges have their number, the others -1. -/
structure Lev (E : Eg) (n f s : Nat) (d : List Int) : Prop where
  len : d.length = n
  aim : gI d f = 0
  low : ∀ v, -1 ≤ gI d v ∧ gI d v ≤ (s : Int)
  is : ∀ (v k : Nat), v ≠ f → 0 < k → (gI d v = (k : Int) ↔ k ≤ s ∧ DistIs E k v f)
  zero : ∀ v, v ≠ f → gI d v ≠ 0
open Classical in
/-- In round s, behind j of the edges. -/
structure LevJ (E : Eg) (n f s j : Nat) (d0 d : List Int) : Prop where
  len : d.length = n
  old : ∀ v, 0 ≤ gI d0 v → gI d v = gI d0 v
  new : ∀ v, gI d0 v = -1 → gI d v = if ∃ b, (v, b) ∈ E.take j ∧ gI d0 b = (s : Int) then (s : Int) + 1 else -1
theorem LevJ.start {E : Eg} {n f s : Nat} {d : List Int} (h : d.length = n) : LevJ E n f s 0 d d := ⟨h, fun _ _ => rfl, fun v hv => by rw [if_neg (by simp), hv]⟩
section
variable {E : Eg} {n f s j : Nat} {d0 d : List Int}
theorem LevJ.at_s (h : LevJ E n f s j d0 d) (hl : Lev E n f s d0) (b : Nat) : gI d b = (s : Int) ↔ gI d0 b = (s : Int) := by
  rcases (show gI d0 b < 0 ∨ 0 ≤ gI d0 b by omega) with k | k
  · have k1 : gI d0 b = -1 := by have := (hl.low b).1; omega
    rw [h.new b k1, k1]
    split <;> omega
  · rw [h.old b k]
theorem LevJ.neg (h : LevJ E n f s j d0 d) (hl : Lev E n f s d0) {a : Nat} (ha : gI d a < 0) : gI d a = -1 ∧ gI d0 a = -1 := by
  rcases (show gI d0 a < 0 ∨ 0 ≤ gI d0 a by omega) with k | k
  · have k1 : gI d0 a = -1 := by have := (hl.low a).1; omega
    refine ⟨?_, k1⟩
    rw [h.new a k1] at ha ⊢
    split at ha
    · omega
    · rename_i q; rw [if_neg q]
  · rw [h.old a k] at ha; omega
theorem LevJ.set (h : LevJ E n f s j d0 d) (hl : Lev E n f s d0) {a b : Nat} (he : E[j]? = some (a, b)) (hn : a < n) (hb : gI d b = (s : Int)) (ha : gI d a < 0) : LevJ E n f s (j + 1) d0 (d.set a ((s : Int) + 1)) := by
  obtain ⟨-, a0⟩ := h.neg hl ha
  have hb0 := (h.at_s hl b).1 hb
  refine ⟨by rw [List.length_set, h.len], fun v hv => ?_, fun v hv => ?_⟩
  · rw [gI_set (by rw [h.len]; exact hn), if_neg (fun e => by rw [e, a0] at hv; omega), h.old v hv]
  · rw [gI_set (by rw [h.len]; exact hn)]
    by_cases e : v = a
    · rw [if_pos e, if_pos ⟨b, by rw [List.take_add_one, he, e]; simp, hb0⟩]
    · rw [if_neg e, h.new v hv]
      have : (∃ b, (v, b) ∈ E.take j ∧ gI d0 b = (s : Int)) ↔ ∃ b, (v, b) ∈ E.take (j + 1) ∧ gI d0 b = (s : Int) := by
        rw [List.take_add_one, he]
        simp [e]
      exact @ite_iffX _ _ (Classical.propDecidable _) (Classical.propDecidable _) _ _ _ this
theorem LevJ.keep (h : LevJ E n f s j d0 d) (hl : Lev E n f s d0) {a b : Nat} (he : E[j]? = some (a, b)) (hk : gI d b ≠ (s : Int) ∨ 0 ≤ gI d a) : LevJ E n f s (j + 1) d0 d := by
  refine ⟨h.len, h.old, fun v hv => ?_⟩
  have hnew := h.new v hv
  by_cases e : v = a
  · subst e
    by_cases q : ∃ b, (v, b) ∈ E.take j ∧ gI d0 b = (s : Int)
    · rw [hnew, if_pos q, if_pos]
      obtain ⟨b', q1, q2⟩ := q
      exact ⟨b', by rw [List.take_add_one]; exact List.mem_append_left _ q1, q2⟩
    · rw [hnew, if_neg q, if_neg]
      rintro ⟨b', q1, q2⟩
      rw [List.take_add_one, he] at q1
      rcases List.mem_append.1 q1 with q3 | q3
      · exact q ⟨b', q3, q2⟩
      · have e2 : b' = b := by simpa using q3
        subst e2
        rw [hnew, if_neg q] at hk
        rcases hk with k | k
        · exact k ((h.at_s hl b').2 q2)
        · omega
  · rw [hnew]
    have : (∃ b, (v, b) ∈ E.take j ∧ gI d0 b = (s : Int)) ↔ ∃ b, (v, b) ∈ E.take (j + 1) ∧ gI d0 b = (s : Int) := by
      rw [List.take_add_one, he]
      simp [e]
    exact @ite_iffX _ _ (Classical.propDecidable _) (Classical.propDecidable _) _ _ _ this
theorem Lev.next (hE : EdOk E n) (hl : Lev E n f s d0) (h : LevJ E n f s E.length d0 d) : Lev E n f (s + 1) d := by
  have hnew := h.new
  rw [List.take_length] at hnew
  have haim : gI d f = 0 := by rw [h.old f (by rw [hl.aim]; exact Int.le_refl _), hl.aim]
  have hs : ∀ b, gI d0 b = (s : Int) ↔ (b = f ∧ s = 0) ∨ (b ≠ f ∧ 0 < s ∧ DistIs E s b f) := fun b => by
    by_cases e : b = f
    · subst e
      rw [hl.aim]
      constructor
      · intro q; exact .inl ⟨rfl, by omega⟩
      · rintro (⟨-, q⟩ | ⟨q, -⟩)
        · omega
        · exact absurd rfl q
    · constructor
      · intro q
        have h0 : 0 < s := by
          rcases Nat.eq_zero_or_pos s with z | z
          · subst z; exact absurd q (hl.zero b e)
          · exact z
        exact .inr ⟨e, h0, ((hl.is b s e h0).1 q).2⟩
      · rintro (⟨q, -⟩ | ⟨-, q, r⟩)
        · exact absurd q e
        · exact (hl.is b s e q).2 ⟨Nat.le_refl _, r⟩
  refine ⟨h.len, haim, fun v => ?_, fun v k hv hk => ?_, fun v hv => ?_⟩
  · rcases (show gI d0 v < 0 ∨ 0 ≤ gI d0 v by omega) with q | q
    · have q1 : gI d0 v = -1 := by have := (hl.low v).1; omega
      rw [hnew v q1]; split <;> constructor <;> omega
    · rw [h.old v q]; have := hl.low v; omega
  · rcases (show gI d0 v < 0 ∨ 0 ≤ gI d0 v by omega) with q | q
    · have q1 : gI d0 v = -1 := by have := (hl.low v).1; omega
      have hno : ∀ i, 0 < i → i ≤ s → ¬ DistIs E i v f := fun i hi hle hd => by
        have := (hl.is v i hv hi).2 ⟨hle, hd⟩
        omega
      rw [hnew v q1]
      constructor
      · intro e
        split at e
        · rename_i hx
          obtain ⟨b, hb, hb2⟩ := hx
          have hk1 : k = s + 1 := by omega
          subst hk1
          refine ⟨Nat.le_refl _, ?_⟩
          have hw : Way E (s + 1) v f := by
            rcases (hs b).1 hb2 with ⟨e1, e2⟩ | ⟨-, -, e2⟩
            · subst e1; subst e2; exact .one hb
            · exact .cons hb e2.1
          obtain ⟨i, hi, hd⟩ := way_dist hw
          rcases Nat.lt_or_ge s i with c | c
          · have : i = s + 1 := by omega
            rw [← this]; exact hd
          · exact absurd hd (hno i hd.1.pos c)
        · omega
      · rintro ⟨k1, k2⟩
        have hk1 : k = s + 1 := by
          rcases Nat.lt_or_ge s k with c | c
          · omega
          · exact absurd k2 (hno k hk c)
        subst hk1
        have hex : ∃ b, (v, b) ∈ E ∧ gI d0 b = (s : Int) := by
          rcases Nat.eq_zero_or_pos s with z | z
          · subst z
            cases k2.1 with
            | one he => exact ⟨f, he, (hs f).2 (.inl ⟨rfl, rfl⟩)⟩
            | cons he hw => exact absurd hw.pos (by omega)
          · obtain ⟨y, hy, hd⟩ := dist_next k2 z
            refine ⟨y, hy, (hs y).2 (.inr ⟨fun e => ?_, z, hd⟩)⟩
            subst e
            have := k2.2 1 (.one hy)
            omega
        rw [if_pos hex]; omega
    · rw [h.old v q, hl.is v k hv hk]
      constructor
      · rintro ⟨a, b⟩; exact ⟨by omega, b⟩
      · rintro ⟨a, b⟩
        refine ⟨?_, b⟩
        obtain ⟨i, hi⟩ : ∃ i : Nat, gI d0 v = (i : Int) := ⟨(gI d0 v).toNat, by omega⟩
        have hi0 : 0 < i := by
          rcases Nat.eq_zero_or_pos i with z | z
          · subst z; exact absurd hi (hl.zero v hv)
          · exact z
        have := (hl.is v i hv hi0).1 hi
        have := b.same this.2
        omega
  · rcases (show gI d0 v < 0 ∨ 0 ≤ gI d0 v by omega) with q | q
    · have q1 : gI d0 v = -1 := by have := (hl.low v).1; omega
      rw [hnew v q1]; split <;> omega
    · rw [h.old v q]; exact hl.zero v hv
/-- How far all are. -/
def FarIs (E : Eg) (n f : Nat) (d : List Int) : Prop := Lev E n f n d
theorem FarIs.dist (h : FarIs E n f d) (hE : EdOk E n) {v k : Nat} (hv : v ≠ f) (hk : 0 < k) : gI d v = (k : Int) ↔ DistIs E k v f := by
  rw [Lev.is h v k hv hk]
  exact ⟨fun q => q.2, fun q => ⟨dist_le hE q, q⟩⟩
theorem FarIs.there (h : FarIs E n f d) (hE : EdOk E n) {v : Nat} (hv : v ≠ f) (hg : 0 ≤ gI d v) : ∃ k : Nat, 0 < k ∧ gI d v = (k : Int) ∧ DistIs E k v f := by
  obtain ⟨i, hi⟩ : ∃ i : Nat, gI d v = (i : Int) := ⟨(gI d v).toNat, by omega⟩
  have hi0 : 0 < i := by
    rcases Nat.eq_zero_or_pos i with z | z
    · subst z; exact absurd hi (h.zero v hv)
    · exact z
  exact ⟨i, hi0, hi, (h.dist hE hv hi0).1 hi⟩
theorem Lev.first (hf : f < n) {d : List Int} (hl : d.length = n) (h : ∀ v, v < n → gI d v = if v = f then 0 else -1) : Lev E n f 0 d := by
  have h2 : ∀ v, v ≠ f → gI d v = -1 := fun v hv => by
    rcases Nat.lt_or_ge v n with q | q
    · rw [h v q, if_neg hv]
    · unfold gI; rw [List.getD_eq_getElem?_getD, List.getElem?_eq_none (by omega)]; rfl
  have h3 : gI d f = 0 := by rw [h f hf, if_pos rfl]
  refine ⟨hl, h3, fun v => ?_, fun v k hv hk => ?_, fun v hv => ?_⟩
  · by_cases e : v = f
    · rw [e, h3]; omega
    · rw [h2 v e]; omega
  · rw [h2 v hv]; constructor
    · intro q; omega
    · rintro ⟨q, -⟩; omega
  · rw [h2 v hv]; omega

/-- The shortest round through a rank, looked for among the first j. -/
structure Thr (E : Eg) (f j : Nat) (d : List Int) (b : Nat) : Prop where
  none : b = 0 → ∀ i, i < j → (f, i) ∈ E → gI d i < 0
  some : 0 < b → (∃ i, i < j ∧ (f, i) ∈ E ∧ gI d i = ((b - 1 : Nat) : Int)) ∧ ∀ i, i < j → (f, i) ∈ E → 0 ≤ gI d i → ((b - 1 : Nat) : Int) ≤ gI d i
theorem Thr.start : Thr E f 0 d 0 := ⟨fun _ i hi => absurd hi (Nat.not_lt_zero _), fun h => absurd h (by omega)⟩
theorem Thr.keep {b : Nat} (h : Thr E f j d b) (hk : ((f, j) ∈ E ∧ 0 ≤ gI d j) → 0 < b ∧ ((b : Nat) : Int) ≤ gI d j + 1) : Thr E f (j + 1) d b := by
  refine ⟨fun hb i hi he => ?_, fun hb => ⟨?_, fun i hi he h0 => ?_⟩⟩
  · rcases Nat.lt_or_ge i j with q | q
    · exact h.none hb i q he
    · have : i = j := by omega
      subst this
      rcases (show gI d i < 0 ∨ 0 ≤ gI d i by omega) with z | z
      · exact z
      · have := hk ⟨he, z⟩; omega
  · obtain ⟨i, h1, h2, h3⟩ := (h.some hb).1
    exact ⟨i, by omega, h2, h3⟩
  · rcases Nat.lt_or_ge i j with q | q
    · exact (h.some hb).2 i q he h0
    · have : i = j := by omega
      subst this
      have := hk ⟨he, h0⟩; omega
theorem Thr.new {b m : Nat} (h : Thr E f j d b) (he : (f, j) ∈ E) (hm : gI d j = (m : Int)) (hb : b = 0 ∨ m + 1 < b) : Thr E f (j + 1) d (m + 1) := by
  refine ⟨fun q => by omega, fun _ => ⟨⟨j, by omega, he, by rw [hm]; rfl⟩, fun i hi hi2 h0 => ?_⟩⟩
  rw [Nat.add_sub_cancel]
  rcases Nat.lt_or_ge i j with q | q
  · rcases hb with z | z
    · have := h.none z i q hi2; omega
    · have := (h.some (by omega)).2 i q hi2 h0; omega
  · have : i = j := by omega
    subst this
    rw [hm]; exact Int.le_refl _
/-- What the shortest round through a rank is. -/
theorem Thr.is {b : Nat} (hE : EdOk E n) (hF : FarIs E n f d) (h : Thr E f n d b) : (b = 0 → ∀ k, ¬ Way E k f f) ∧ (0 < b → DistIs E b f f) := by
  have key : ∀ k, Way E k f f → ∃ i, i < n ∧ (f, i) ∈ E ∧ 0 ≤ gI d i ∧ gI d i + 1 ≤ (k : Int) := fun k hw => by
    cases hw with
    | one he => exact absurd rfl (hE.ne _ he)
    | @cons k _ c _ he hw =>
      have hcf : c ≠ f := fun e => hE.ne _ he e.symm
      obtain ⟨j, hj, hd⟩ := way_dist hw
      have := (hF.dist hE hcf hd.1.pos).2 hd
      exact ⟨c, (hE.lt _ he).2, he, by omega, by omega⟩
  constructor
  · intro hb k hw
    obtain ⟨i, h1, h2, h3, -⟩ := key k hw
    have := h.none hb i h1 h2
    omega
  · intro hb
    obtain ⟨⟨i, h1, h2, h3⟩, h4⟩ := h.some hb
    have hif : i ≠ f := fun e => hE.ne _ h2 e.symm
    obtain ⟨k, hk0, hk, hd⟩ := hF.there hE hif (by omega)
    have hbk : b = k + 1 := by omega
    refine ⟨by rw [hbk]; exact .cons h2 hd.1, fun q hq => ?_⟩
    obtain ⟨i', g1, g2, g3, g4⟩ := key q hq
    have := h4 i' g1 g2 g3
    omega
end

/-- Among the ranks below j the first one with the shortest round: its length, and itself. -/
structure Sl (E : Eg) (j best f : Nat) : Prop where
  none : best = 0 → NoRd E j
  lt : 0 < best → f < j
  is : 0 < best → DistIs E best f f
  least : 0 < best → ∀ r, r < j → ∀ i, Way E i r r → best ≤ i
  first : 0 < best → ∀ r, r < f → ¬ Way E best r r
section
variable {E : Eg} {n j best f b : Nat}
theorem Sl.start : Sl E 0 0 f := ⟨fun _ r hr => absurd hr (Nat.not_lt_zero _), fun h => absurd h (by omega), fun h => absurd h (by omega), fun h => absurd h (by omega), fun h => absurd h (by omega)⟩
theorem Sl.keep (h : Sl E j best f) (hb : (b = 0 → ∀ k, ¬ Way E k j j) ∧ (0 < b → DistIs E b j j)) (hk : b = 0 ∨ (0 < best ∧ best ≤ b)) : Sl E (j + 1) best f := by
  refine ⟨fun h0 r hr k hw => ?_, fun h0 => by have := h.lt h0; omega, h.is, fun h0 r hr i hw => ?_, h.first⟩
  · rcases Nat.lt_or_ge r j with q | q
    · exact h.none h0 r q k hw
    · have : r = j := by omega
      subst this
      rcases hk with z | z
      · exact hb.1 z k hw
      · omega
  · rcases Nat.lt_or_ge r j with q | q
    · exact h.least h0 r q i hw
    · have : r = j := by omega
      subst this
      rcases hk with z | z
      · exact absurd hw (hb.1 z i)
      · rcases Nat.eq_zero_or_pos b with y | y
        · exact absurd hw (hb.1 y i)
        · have := (hb.2 y).2 i hw; omega
theorem Sl.new (h : Sl E j best f) (hb : (b = 0 → ∀ k, ¬ Way E k j j) ∧ (0 < b → DistIs E b j j)) (h0 : 0 < b) (hk : best = 0 ∨ b < best) : Sl E (j + 1) b j := by
  refine ⟨fun q => by omega, fun _ => Nat.lt_succ_self _, fun _ => hb.2 h0, fun _ r hr i hw => ?_, fun _ r hr hw => ?_⟩
  · rcases Nat.lt_or_ge r j with q | q
    · rcases hk with z | z
      · exact absurd hw (h.none z r q i)
      · rcases Nat.eq_zero_or_pos best with y | y
        · omega
        · have := h.least y r q i hw; omega
    · have : r = j := by omega
      subst this
      exact (hb.2 h0).2 i hw
  · rcases hk with z | z
    · exact h.none z r hr b hw
    · have := h.least (by omega) r hr b hw; omega
/-- The round goes on by the least rank that is near enough. -/
structure Cn (E : Eg) (n f k : Nat) (L : List Nat) (at_ left : Nat) : Prop where
  len : L.length + left = k
  hd : L[0]? = some f
  last : L[L.length - 1]? = some at_
  dist : DistIs E (left + 1) at_ f
  lt : ∀ r ∈ L, r < n
  chain : ∀ i x y, i + 1 < L.length → L[i]? = some x → L[i + 1]? = some y → ((x, y) ∈ E ∧ DistIs E (k - (i + 1)) y f) ∧ ∀ z, (x, z) ∈ E → DistIs E (k - (i + 1)) z f → y ≤ z
theorem Cn.start (h : Sl E n best f) (h0 : 0 < best) : Cn E n f best [f] f (best - 1) where
  len := by simp; omega
  hd := rfl
  last := rfl
  dist := by rw [show best - 1 + 1 = best by omega]; exact h.is h0
  lt r hr := by rw [List.mem_singleton.1 hr]; exact h.lt h0
  chain i x y hi := absurd hi (by simp)
theorem Cn.ne {k left at_ : Nat} {L : List Nat} (h : Cn E n f k L at_ left) (hk : DistIs E k f f) {u : Nat} (hl : left < k) (hd : DistIs E left u f) : u ≠ f := fun e => by
  subst e
  have := hk.2 _ hd.1
  omega
theorem Cn.found {k left at_ : Nat} {L : List Nat} (h : Cn E n f k L at_ left) (h0 : 0 < left) : ∃ u, (at_, u) ∈ E ∧ DistIs E left u f := dist_next h.dist h0
theorem Cn.next {k left at_ u : Nat} {L : List Nat} (hE : EdOk E n) (h : Cn E n f k L at_ (left + 1)) (hu : (at_, u) ∈ E) (he : DistIs E (left + 1) u f) (hf : ∀ z, (at_, z) ∈ E → DistIs E (left + 1) z f → u ≤ z) : Cn E n f k (L ++ [u]) u left := by
  have hl := (List.getElem?_eq_some_iff.1 h.hd).1
  have hlen := h.len
  refine ⟨by simp; omega, by rw [List.getElem?_append_left hl]; exact h.hd, by simp, he, fun r hm => ?_, fun i x y hi hx hy => ?_⟩
  · rcases List.mem_append.1 hm with k1 | k1
    · exact h.lt r k1
    · rw [List.mem_singleton.1 k1]; exact (hE.lt _ hu).2
  · rw [List.length_append, List.length_singleton] at hi
    rcases Nat.lt_or_ge (i + 1) L.length with h1 | h1
    · rw [List.getElem?_append_left (by omega)] at hx
      rw [List.getElem?_append_left h1] at hy
      exact h.chain i x y h1 hx hy
    · have ei : i = L.length - 1 := by omega
      rw [List.getElem?_append_left (by omega), ei, h.last] at hx
      have ey : L.length = i + 1 := by omega
      rw [← ey, List.getElem?_append_right (Nat.le_refl _), Nat.sub_self] at hy
      have hxa : at_ = x := Option.some.inj hx
      have hyu : u = y := by simpa using hy
      subst hxa hyu
      have e : k - (i + 1) = left + 1 := by omega
      rw [e]
      exact ⟨⟨hu, he⟩, hf⟩
theorem Cn.round {k at_ : Nat} {L : List Nat} (h : Cn E n f k L at_ 0) (hs : Sl E n k f) (h0 : 0 < k) : RoundIs E n L := by
  have hlen := h.len
  exact .inr ⟨f, k, hs.lt h0, (hs.is h0).1, fun r j hr hw => hs.least h0 r hr j hw, hs.first h0, by omega, h.hd, fun i x y hi => h.chain i x y (by omega)⟩
end
end Go.Proofs.YtbmgeobmmpaghaaGreatDoor

namespace Go.Proofs.YtbmgeobmmpaghaaGreatDoor
set_option maxRecDepth 100000
set_option maxRecDepth 100000
open Go.RowKit

/-- A list is an order of the commits. -/
def OrdP (cs l : List Int) : Prop := l.length = cs.length ∧ l.Nodup ∧ ∀ x ∈ l, x ∈ cs
/-- Each dependency leads from one that stands ahead to one that stands behind. -/
def serB (l : List Int) (g : List Dp) : Bool := g.all fun d => !decide (plcP l d.to < plcP l d.fr)
theorem plcP_nodup {l : List Int} : l.Nodup ↔ ∀ (i : Nat) x, l[i]? = some x → plcP l x = (i : Int) := by
  constructor
  · exact fun h i x hx => plcP_of h hx
  · intro h
    rw [List.nodup_iff_pairwise_ne, List.pairwise_iff_getElem]
    intro i j hi hj hij e
    have h1 := h i l[i] (List.getElem?_eq_getElem hi)
    have h2 := h j l[j] (List.getElem?_eq_getElem hj)
    rw [e] at h1
    omega
theorem sub_back : ∀ (l m : List Int), l.Nodup → (∀ x ∈ l, x ∈ m) → m.length ≤ l.length → ∀ x ∈ m, x ∈ l
  | [], m, _, _, hl => by
    have : m = [] := List.eq_nil_of_length_eq_zero (by simpa using hl)
    rw [this]; simp
  | a :: l, m, hd, hs, hl => fun x hx => by
    obtain ⟨h1, h2⟩ := List.nodup_cons.1 hd
    have ham := hs a (List.mem_cons_self ..)
    by_cases e : x = a
    · rw [e]; exact List.mem_cons_self ..
    · refine List.mem_cons_of_mem _ (sub_back l (m.erase a) h2 (fun y hy => ?_) ?_ x ?_)
      · have hne : y ≠ a := fun k => h1 (k ▸ hy)
        exact (List.mem_erase_of_ne hne).2 (hs y (List.mem_cons_of_mem _ hy))
      · rw [List.length_erase_of_mem ham]
        rw [List.length_cons] at hl; omega
      · exact (List.mem_erase_of_ne e).2 hx
section
variable {w : World} {A B : Option Addr} {n c m d : Nat} {cs : List Int} {ac : List Ac}
set_option maxHeartbeats 8000000 in
theorem wrAt {l : List Int} (hs : SB w A n (numC l)) (hl : l.length = n) (hn : n ≤ 4096) (t : Int) :
    Calls Tryz.prog 40 #[.slice A n c, .int .i64 t] w fun e w' => e = .returned (.int .i64 (plcP l t)) ∧ w' = w := by
  have HS := Lib.hid hs
  have HL := Lib.hid hl
  have HN := Lib.hid hn
  clear hs hl hn
  go_enter Tryz.func40, Tryz.ntmps40
  go_upto_region 2 with fail
  go_loopw [5] (fun i wr => ∃ j : Nat, i = .int .i64 (j : Nat) ∧ j ≤ n ∧ (∀ x ∈ l.take j, x ≠ t) ∧ wr = w) (fun i _ => n - (intOf i).toNat)
  case atStart => exact ⟨0, rfl, Nat.zero_le _, by simp, rfl⟩
  case round =>
    rename World => wr
    obtain ⟨j, rfl, hj, ha, rfl⟩ := hrel
    by_cases hlt : j < n
    · obtain ⟨x, hx⟩ : ∃ x, l[j]? = some x := ⟨_, List.getElem?_eq_getElem (by rw [HL.out]; exact hlt)⟩
      obtain ⟨g, o, rfl, c0⟩ := HS.out.num hx
      have i1 : (j : Int) < (n : Int) := by omega
      have l1 : (j : Int) ≤ 4096 := by have := HN.out; omega
      have l2 : (0 : Int) ≤ (j : Int) := by omega
      have HA := Lib.hid ha
      have HX := Lib.hid hx
      have HLT := Lib.hid hlt
      clear hx ha hj hlt
      by_cases hp : x = t
      · subst hp
        have HT := Lib.hid (show plcP l x = (j : Int) from plcP_first HX.out HA.out)
        go_wp2
        go_ret
        exact ⟨by rw [HT.out]; rfl, rfl⟩
      · have hp' : (x == t) = false := by simpa using hp
        go_wp2
        go_roundw
        case rel => exact ⟨j + 1, by go_num, HLT.out, fun y hy => by
          rw [List.take_add_one, HX.out] at hy
          rcases List.mem_append.1 hy with h1 | h1
          · exact HA.out y h1
          · rw [List.mem_singleton.1 h1]; exact hp, by first | rfl | trivial⟩
        case measure => have := HLT.out; simp [intOf]; omega
    · obtain rfl : j = n := by omega
      have i1 : ¬ (j : Int) < (j : Int) := by omega
      have HT := Lib.hid (show plcP l t = -1 by
        rw [← HL.out, List.take_length] at ha
        unfold plcP
        rw [if_neg (fun hm => ha t hm rfl)])
      clear ha hj hlt
      go_wp2
      go_ret
      exact ⟨by rw [HT.out]; rfl, rfl⟩
set_option maxHeartbeats 32000000 in
theorem wrSerial (h : Hist w A n c B m d cs ac) (hR : Right cs ac) {oA : Option Addr} {on oc : Nat} {l : List Int} (hs : SB w oA on (numC l)) (hl : l.length = on) (hn : on ≤ 4096) :
    Calls Tryz.prog 24 #[histV A n c B m d, .slice oA on oc] w fun e w' => e = .returned (.bool (serB l (graphP cs ac))) ∧ Below w.heap.size w w' := by
  obtain ⟨W0, hB⟩ := h.box
  have HB := Lib.hid hB
  have HW := Lib.hid hB.eq
  have x0 := hB.x0
  have x1 := hB.x1
  have CG := Lib.hid (wrGraph hB.h (by rw [← h.cl]; exact hR.lc) (by rw [← h.al]; exact hR.la))
  have HGL := Lib.hid (show (graphP cs ac).length ≤ 8192 by have := hR.edges_len; unfold edgesP at this; rwa [List.length_map] at this)
  have CA := Lib.hid (fun (W : World) (hW : Below w.heap.size w W) (t : Int) => wrAt (c := oc) (hs.gw hW) hl hn t)
  obtain ⟨GR, hGR⟩ : ∃ g, graphP cs ac = g := ⟨_, rfl⟩
  rw [hGR] at CG HGL ⊢
  obtain ⟨r, hr⟩ : ∃ r, serB l GR = r := ⟨_, rfl⟩
  have HRS := Lib.hid hr
  rw [hr]
  unfold histV at CG ⊢
  clear h hB hR hs hl hn hGR hr
  go_enter Tryz.func24, Tryz.ntmps24
  go_upto_region 1 with fail
  rw [HW.out]
  go_upto_region 2 with (go_at_call 13; go_loud (refine CG.out.mono ?_; rintro e w1 ⟨v1, rfl, ⟨gA, gc, rfl, gs, -, -⟩, b1⟩; have GS := Lib.hid gs; have B1 := Lib.hid (below_next HB.out.below b1); clear gs b1))
  clear x0 x1
  obtain ⟨q, hq⟩ : ∃ q, GR.length = q := ⟨_, rfl⟩
  have HQ := Lib.hid hq
  rw [hq] at HGL ⊢
  clear hq
  go_upto_region 3 with fail
  go_loopw [6] (fun i wr => ∃ j : Nat, i = .int .i64 (j : Nat) ∧ j ≤ q ∧ serB l (GR.take j) = true ∧ Below w1.heap.size w1 wr) (fun i _ => q - (intOf i).toNat)
  case atStart => exact ⟨0, rfl, Nat.zero_le _, by simp [serB], Below.refl _ _⟩
  case round =>
    rename World => wr
    obtain ⟨j, rfl, hj, ha, hb⟩ := hrel
    by_cases hlt : j < q
    · obtain ⟨y, hy⟩ : ∃ y, GR[j]? = some y := ⟨_, List.getElem?_eq_getElem (by rw [HQ.out]; exact hlt)⟩
      obtain ⟨g, o, rfl, c0, c1, c2⟩ := DL.at_ (GS.out.gw hb) hy
      have i1 : (j : Int) < (q : Int) := by omega
      have l1 : (j : Int) ≤ 8192 := by have := HGL.out; omega
      have HT := Lib.hid (show serB l (GR.take (j + 1)) = !decide (plcP l y.to < plcP l y.fr) by
        unfold serB at ha ⊢
        rw [List.take_add_one, hy, Option.toList_some, List.all_append, ha]; simp)
      have HF := Lib.hid (show decide (plcP l y.to < plcP l y.fr) = true → r = false from fun k => by
        rw [← HRS.out]
        unfold serB
        rw [List.all_eq_false]
        exact ⟨y, List.mem_of_getElem? hy, by simpa using k⟩)
      have HLT := Lib.hid hlt
      have HBL := Lib.hid (below_next B1.out hb)
      have HB3 := Lib.hid hb
      obtain ⟨yf, yt, yk⟩ := y
      dsimp only at *
      have C1 := Lib.hid (fun (nq : Nat) (t : Int) => CA.out (wr.drewN nq) (below_next HBL.out (below_drewN11 wr nq)) t)
      clear hy ha hj hlt hb c2
      by_cases hp : plcP l yt < plcP l yf
      · have hpd : decide (plcP l yt < plcP l yf) = true := by simpa using hp
        have HRF := Lib.hid (HF.out hpd)
        clear hp
        go_upto_region 5 with fail
        go_quiet ((go_at_call 40; exact Calls.quiet_of_same (C1.out _ _)))
        go_wp2
        go_ret
        exact ⟨by rw [HRF.out]; rfl, below_next HBL.out (below_drewN11 _ _)⟩
      · have hpd : decide (plcP l yt < plcP l yf) = false := by simpa using hp
        have HT2 := Lib.hid (show serB l (GR.take (j + 1)) = true by rw [HT.out, hpd]; rfl)
        clear hp
        go_upto_region 5 with fail
        go_quiet ((go_at_call 40; exact Calls.quiet_of_same (C1.out _ _)))
        go_wp2
        go_roundw
        case rel => exact ⟨j + 1, by go_num, HLT.out, HT2.out, below_next HB3.out (below_drewN11 _ _)⟩
        case measure => have := HLT.out; simp [intOf]; omega
    · obtain rfl : j = q := by omega
      have i1 : ¬ (j : Int) < (j : Int) := by omega
      have HT := Lib.hid (show r = true by rw [← HRS.out, ← ha, ← HQ.out, List.take_length])
      have HBL := Lib.hid (below_next B1.out hb)
      clear ha hj hlt hb
      go_wp2
      go_ret
      exact ⟨by rw [HT.out]; rfl, HBL.out⟩
end
end Go.Proofs.YtbmgeobmmpaghaaGreatDoor

namespace Go.Proofs.YtbmgeobmmpaghaaGreatDoor
set_option maxRecDepth 100000
open Go.RowKit

theorem numC_setI (d : List Int) (v : Nat) (x : Int) : numC (d.set v x) = (numC d).set v (.int .i64 x) := by simp [numC, List.map_set]
theorem numC_gI {d : List Int} {v : Nat} (h : v < d.length) : (numC d)[v]? = some (.int .i64 (gI d v)) := numC_at (by unfold gI; rw [List.getD_eq_getElem?_getD, List.getElem?_eq_getElem h]; rfl)
theorem SO.intAt {base n c g : Nat} {w : World} {d : List Int} (h : SO seI base w (.slice (some ⟨g, 0, none⟩) n c) n (numC d)) {v : Nat} (hv : v < d.length) : w.cell? ⟨g, v, none⟩ = some (.int .i64 (gI d v)) := by
  rcases h.cell1 v with k | k
  · exact k.trans (numC_gI hv)
  · rw [numC_len] at k; omega
/-- Whether a dependency leads from one to another. -/
def leadB (g : List Dp) (a b : Int) : Bool := g.any fun d => decide (d.fr = a) && decide (d.to = b)
theorem lead_next {g : List Dp} {j : Nat} {y : Dp} (h : g[j]? = some y) (a b : Int) : leadB (g.take (j + 1)) a b = (leadB (g.take j) a b || (decide (y.fr = a) && decide (y.to = b))) := by
  unfold leadB
  rw [List.take_add_one, h, Option.toList_some, List.any_append]
  simp
theorem lead_found {g : List Dp} {j : Nat} {y : Dp} (h : g[j]? = some y) {a b : Int} (h1 : y.fr = a) (h2 : y.to = b) : leadB g a b = true := by
  unfold leadB
  rw [List.any_eq_true]
  exact ⟨y, List.mem_of_getElem? h, by simp [h1, h2]⟩
theorem lead_edge {ns : List Int} {g : List Dp} (hd : ns.Nodup) (hm : ∀ d ∈ g, d.fr ∈ ns ∧ d.to ∈ ns) {i j : Nat} {a b : Int} (ha : ns[i]? = some a) (hb : ns[j]? = some b) : leadB g a b = true ↔ (i, j) ∈ edgesP ns g := by
  unfold leadB edgesP
  rw [List.any_eq_true, List.mem_map]
  constructor
  · rintro ⟨d, h1, h2⟩
    rw [Bool.and_eq_true, decide_eq_true_eq, decide_eq_true_eq] at h2
    refine ⟨d, h1, ?_⟩
    unfold edgeP
    rw [h2.1, h2.2, idx_of hd ha, idx_of hd hb]
  · rintro ⟨d, h1, h2⟩
    unfold edgeP at h2
    injection h2 with e1 e2
    obtain ⟨m1, m2⟩ := hm d h1
    have k1 := plcP_at m1
    have k2 := plcP_at m2
    rw [e1, ha] at k1
    rw [e2, hb] at k2
    exact ⟨d, h1, by rw [Bool.and_eq_true, decide_eq_true_eq, decide_eq_true_eq]; exact ⟨(Option.some.inj k1).symm, (Option.some.inj k2).symm⟩⟩
section
variable {w : World} {gA : Option Addr} {gc : Nat} {GR : List Dp}
set_option maxHeartbeats 16000000 in
theorem wrLeads {q : Nat} (hg : SB w gA (3 * GR.length) (cellsE dpC GR)) (hq : GR.length = q) (hl : q ≤ 8192) (a b : Int) :
    Calls Tryz.prog 49 #[.slice gA q gc, .int .i64 a, .int .i64 b] w fun e w' => e = .returned (.bool (leadB GR a b)) ∧ w' = w := by
  have HG := Lib.hid hg
  have HQ := Lib.hid hq
  have HL := Lib.hid hl
  obtain ⟨r, hr⟩ : ∃ r, leadB GR a b = r := ⟨_, rfl⟩
  have HR := Lib.hid hr
  rw [hr]
  clear hg hq hl hr
  go_enter Tryz.func49, Tryz.ntmps49
  go_upto_region 2 with fail
  go_loopw [7] (fun i wr => ∃ j : Nat, i = .int .i64 (j : Nat) ∧ j ≤ q ∧ leadB (GR.take j) a b = false ∧ wr = w) (fun i _ => q - (intOf i).toNat)
  case atStart => exact ⟨0, rfl, Nat.zero_le _, by simp [leadB], rfl⟩
  case round =>
    rename World => wr
    obtain ⟨j, rfl, hj, ha, rfl⟩ := hrel
    by_cases hlt : j < q
    · obtain ⟨y, hy⟩ : ∃ y, GR[j]? = some y := ⟨_, List.getElem?_eq_getElem (by rw [HQ.out]; exact hlt)⟩
      obtain ⟨g, o, rfl, c0, c1, c2⟩ := DL.at_ HG.out hy
      have i1 : (j : Int) < (q : Int) := by omega
      have l1 : (j : Int) ≤ 8192 := by have := HL.out; omega
      have HN := Lib.hid (lead_next hy a b)
      have HF := Lib.hid (fun h1 h2 => HR.out.symm.trans (lead_found (a := a) (b := b) hy h1 h2))
      have HA := Lib.hid ha
      have HLT := Lib.hid hlt
      obtain ⟨yf, yt, yk⟩ := y
      dsimp only at *
      clear hy ha hj hlt c2
      by_cases h1 : yf = a
      · have d1 : (yf == a) = true := by simpa using h1
        by_cases h2 : yt = b
        · have d2 : (yt == b) = true := by simpa using h2
          have HT := Lib.hid (HF.out h1 h2)
          clear h1 h2
          go_wp2
          go_ret
          exact ⟨by rw [HT.out]; rfl, rfl⟩
        · have d2 : (yt == b) = false := by simpa using h2
          have HN2 := Lib.hid (show leadB (GR.take (j + 1)) a b = false by rw [HN.out, HA.out]; simp [h2])
          clear h1 h2
          go_wp2
          go_roundw
          case rel => exact ⟨j + 1, by go_num, HLT.out, HN2.out, by first | rfl | trivial⟩
          case measure => have := HLT.out; simp [intOf]; omega
      · have d1 : (yf == a) = false := by simpa using h1
        have HN2 := Lib.hid (show leadB (GR.take (j + 1)) a b = false by rw [HN.out, HA.out]; simp [h1])
        clear h1
        go_wp2
        go_roundw
        case rel => exact ⟨j + 1, by go_num, HLT.out, HN2.out, by first | rfl | trivial⟩
        case measure => have := HLT.out; simp [intOf]; omega
    · obtain rfl : j = q := by omega
      have i1 : ¬ (j : Int) < (j : Int) := by omega
      have HT := Lib.hid (show r = false by rw [← HR.out, ← ha, ← HQ.out, List.take_length])
      clear ha hj hlt
      go_wp2
      go_ret
      exact ⟨by rw [HT.out]; rfl, rfl⟩
variable {nA : Option Addr} {n nc : Nat} {ns : List Int}
/-- Names and dependencies as they lie, and what is known of them. -/
structure Nms (w : World) (gA : Option Addr) (q : Nat) (GR : List Dp) (nA : Option Addr) (n : Nat) (ns : List Int) : Prop where
  g : SB w gA (3 * GR.length) (cellsE dpC GR)
  qe : GR.length = q
  gl : q ≤ 8192
  s : SB w nA n (numC ns)
  ne : ns.length = n
  nl : n ≤ 4096
  nd : ns.Nodup
  mem : ∀ d ∈ GR, d.fr ∈ ns ∧ d.to ∈ ns
  ok : EdOk (edgesP ns GR) n
theorem Nms.gw {q : Nat} {w' : World} (h : Nms w gA q GR nA n ns) (hb : Below w.heap.size w w') : Nms w' gA q GR nA n ns := ⟨h.g.gw hb, h.qe, h.gl, h.s.gw hb, h.ne, h.nl, h.nd, h.mem, h.ok⟩
set_option maxHeartbeats 32000000 in
theorem wrFar {q f : Nat} {t : Int} (h : Nms w gA q GR nA n ns) (hf : ns[f]? = some t) :
    Calls Tryz.prog 48 #[.slice gA q gc, .slice nA n nc, .int .i64 t] w fun e w' => e = .returned (.slice (some ⟨w.heap.size, 0, none⟩) n n) ∧ (∃ d, FarIs (edgesP ns GR) n f d ∧ SO seI w.heap.size w' (.slice (some ⟨w.heap.size, 0, none⟩) n n) n (numC d)) ∧ Below w.heap.size w w' := by
  have hfn : f < n := by rw [← h.ne]; exact (List.getElem?_eq_some_iff.1 hf).1
  obtain ⟨w1, mk1, so1, b1, l1⟩ := so_make seI_ok rfl rfl rfl w n (by have := h.nl; omega) w.heap.size (Nat.le_refl _)
  have mk1 : (Instr.makeSlice 22 (.int .i64 (n : Int)) (.int .i64 (n : Int))).run Tryz.prog w = .ok (.slice (some ⟨w.heap.size, 0, none⟩) n n) w1 := mk1
  have H := Lib.hid h
  have HF := Lib.hid hf
  have HFN := Lib.hid hfn
  have HNL := Lib.hid h.nl
  have HGL := Lib.hid h.gl
  have HQ := Lib.hid h.qe
  have S1 := Lib.hid (show SO seI w.heap.size w1 (.slice (some ⟨w.heap.size, 0, none⟩) n n) n (numC (List.replicate n 0)) by have e : numC (List.replicate n 0) = List.replicate n (.int .i64 0) := by { simp [numC] }; rw [e]; exact so1)
  have B1 := Lib.hid b1
  obtain ⟨E, hE⟩ : ∃ E, edgesP ns GR = E := ⟨_, rfl⟩
  have HE := Lib.hid hE
  have HOK := Lib.hid (show EdOk E n by rw [← hE]; exact h.ok)
  have HEL := Lib.hid (show E.length = q by rw [← hE]; unfold edgesP; rw [List.length_map, h.qe])
  rw [hE]
  clear h hf hfn so1 b1 l1 hE
  go_enter Tryz.func48, Tryz.ntmps48
  go_upto_region 3 with fail
  obtain ⟨z, hz⟩ : ∃ z, w.heap.size = z := ⟨_, rfl⟩
  rw [hz] at S1 B1 ⊢
  go_loopw [8] (fun i wr => ∃ (j : Nat) (d : List Int), i = .int .i64 (j : Nat) ∧ j ≤ n ∧ d.length = n ∧ (∀ v, v < j → gI d v = if v = f then 0 else -1) ∧ SO seI z wr (.slice (some ⟨z, 0, none⟩) n n) n (numC d) ∧ Below z w wr) (fun i _ => n - (intOf i).toNat)
  case atStart => exact ⟨0, _, rfl, Nat.zero_le _, List.length_replicate .., fun v hv => absurd hv (Nat.not_lt_zero _), S1.out, B1.out⟩
  case round =>
    rename World => wr
    obtain ⟨j, d, rfl, hj, hdl, hd, hso, hb⟩ := hrel
    by_cases hlt : j < n
    · obtain ⟨x, hx⟩ : ∃ x, ns[j]? = some x := ⟨_, List.getElem?_eq_getElem (by rw [H.out.ne]; exact hlt)⟩
      obtain ⟨gn, on, rfl, c0⟩ := (H.out.s.gw (by rw [hz]; exact hb)).num hx
      have hgn : gn < z := by
        obtain ⟨g', o', e', c'⟩ := H.out.s.num hx
        cases e'
        rw [← hz]; exact World.block_lt_of_cell? w _ c'
      have cj := hso.intAt (v := j) (by rw [hdl]; exact hlt)
      have fj := hso.own.frozenAt j
      obtain ⟨Y, hY⟩ : ∃ Y, wr.setCell ⟨z, j, none⟩ (.int .i64 (-1)) = Y := ⟨_, rfl⟩
      have s2 : SO seI z Y (.slice (some ⟨z, 0, none⟩) n n) n (numC (d.set j (-1))) := by rw [numC_setI, ← hY]; exact hso.set1 j _ rfl
      have bY : Below z w Y := by rw [← hY]; exact hb.setCell (p := ⟨z, j, none⟩) (Nat.le_refl _) _
      have c0Y : Y.cell? ⟨gn, on + j, none⟩ = some (.int .i64 x) := by rw [← hY]; exact (World.cell?_setCell_other (w := wr) (a := ⟨z, j, none⟩) (b := ⟨gn, on + j, none⟩) (v := .int .i64 (-1)) (fun e => by injection e with e1 e2; omega)).trans c0
      have cjY := s2.intAt (v := j) (by rw [List.length_set, hdl]; exact hlt)
      have fjY := s2.own.frozenAt j
      have i1 : (j : Int) < (n : Int) := by omega
      have l1 : (j : Int) ≤ 4096 := by have := HNL.out; omega
      have HY := Lib.hid hY
      have S2 := Lib.hid s2
      have BY := Lib.hid bY
      have HLT := Lib.hid hlt
      have HD1 := Lib.hid (show ∀ v, v < j + 1 → j ≠ f → gI (d.set j (-1)) v = if v = f then 0 else -1 from fun v hv hne => by
        rw [gI_set (by rw [hdl]; exact hlt)]
        by_cases e : v = j
        · rw [if_pos e, if_neg (by omega)]
        · rw [if_neg e, hd v (by omega)])
      have HD2 := Lib.hid (show ∀ v, v < j + 1 → j = f → gI ((d.set j (-1)).set j 0) v = if v = f then 0 else -1 from fun v hv he => by
        rw [gI_set (by rw [List.length_set, hdl]; exact hlt), gI_set (by rw [hdl]; exact hlt)]
        by_cases e : v = j
        · rw [if_pos e, if_pos (by omega)]
        · rw [if_neg e, if_neg e, hd v (by omega)])
      have HDL := Lib.hid hdl
      have HXF := Lib.hid (show x = t ↔ j = f from ⟨fun e => by
        have h1 := idx_of H.out.nd hx
        have h2 := idx_of H.out.nd HF.out
        rw [e] at h1; omega, fun e => by
        have h2 := HF.out
        rw [← e, hx] at h2; exact Option.some.inj h2⟩)
      clear hx hj hdl hd hso hb hlt hY s2 bY hgn
      go_upto_region 6 with fail
      rw [HY.out]
      clear cj fj c0
      by_cases hp : x = t
      · have hp1 : (x == t) = true := by simpa using hp
        have HJF := Lib.hid (HXF.out.1 hp)
        have S3 := Lib.hid (show SO seI z (Y.setCell ⟨z, j, none⟩ (.int .i64 0)) (.slice (some ⟨z, 0, none⟩) n n) n (numC ((d.set j (-1)).set j 0)) by rw [numC_setI (d.set j (-1))]; exact S2.out.set1 j _ rfl)
        clear hp
        go_wp2
        go_roundw
        case rel => exact ⟨j + 1, (d.set j (-1)).set j 0, by go_num, HLT.out, by rw [List.length_set, List.length_set]; exact HDL.out, fun v hv => HD2.out v hv HJF.out, S3.out, BY.out.setCell (p := ⟨z, j, none⟩) (Nat.le_refl _) _⟩
        case measure => have := HLT.out; simp [intOf]; omega
      · have hp1 : (x == t) = false := by simpa using hp
        have HJF := Lib.hid (fun e => hp (HXF.out.2 e))
        clear hp
        go_wp2
        go_roundw
        case rel => exact ⟨j + 1, d.set j (-1), by go_num, HLT.out, by rw [List.length_set]; exact HDL.out, fun v hv => HD1.out v hv HJF.out, S2.out, BY.out⟩
        case measure => have := HLT.out; simp [intOf]; omega
    · obtain rfl : j = n := by omega
      have i1 : ¬ (j : Int) < (j : Int) := by omega
      have L0 := Lib.hid (Lev.first (E := E) HFN.out hdl hd)
      have S2 := Lib.hid hso
      have B2 := Lib.hid hb
      clear hj hdl hd hso hb hlt
      go_upto_region 9 with fail
      go_loopw [9] (fun i wy => ∃ (s : Nat) (d : List Int), i = .int .i64 (s : Nat) ∧ s ≤ j ∧ Lev E j f s d ∧ SO seI z wy (.slice (some ⟨z, 0, none⟩) j j) j (numC d) ∧ Below z w wy) (fun i _ => j - (intOf i).toNat)
      case atStart => exact ⟨0, d, rfl, Nat.zero_le _, L0.out, S2.out, B2.out⟩
      case round =>
        rename World => wy
        obtain ⟨s, d0, rfl, hs, hlev, hso, hb⟩ := hrel
        by_cases hlt : s < j
        · have i1 : (s : Int) < (j : Int) := by omega
          have l1 : (s : Int) ≤ 4096 := by have := HNL.out; omega
          have HLT := Lib.hid hlt
          have HLEV := Lib.hid hlev
          have HSO := Lib.hid hso
          have HB := Lib.hid hb
          clear hs hlev hso hb hlt
          go_upto_region 12 with fail
          go_loopw [10] (fun i wx => ∃ (k : Nat) (d : List Int), i = .int .i64 (k : Nat) ∧ k ≤ q ∧ LevJ E j f s k d0 d ∧ SO seI z wx (.slice (some ⟨z, 0, none⟩) j j) j (numC d) ∧ Below z w wx) (fun i _ => q - (intOf i).toNat)
          case atStart => exact ⟨0, d0, rfl, Nat.zero_le _, LevJ.start HLEV.out.len, HSO.out, HB.out⟩
          case round =>
            rename World => wx
            obtain ⟨k, d1, rfl, hk, hlj, hso, hb⟩ := hrel
            by_cases hkq : k < q
            · obtain ⟨y, hy⟩ : ∃ y, GR[k]? = some y := ⟨_, List.getElem?_eq_getElem (by rw [HQ.out]; exact hkq)⟩
              obtain ⟨m1, m2⟩ := H.out.mem y (List.mem_of_getElem? hy)
              obtain ⟨g, o, rfl, c0, c1, c2⟩ := DL.at_ (H.out.g.gw (by rw [hz]; exact hb)) hy
              have he : E[k]? = some (ns.idxOf y.fr, ns.idxOf y.to) := by rw [← HE.out]; unfold edgesP; rw [List.getElem?_map, hy]; rfl
              have ea : plcP ns y.fr = ((ns.idxOf y.fr : Nat) : Int) := by unfold plcP; rw [if_pos m1]
              have eb : plcP ns y.to = ((ns.idxOf y.to : Nat) : Int) := by unfold plcP; rw [if_pos m2]
              have an : ns.idxOf y.fr < j := by rw [← H.out.ne]; exact List.idxOf_lt_length_of_mem m1
              have bn : ns.idxOf y.to < j := by rw [← H.out.ne]; exact List.idxOf_lt_length_of_mem m2
              have CA := Lib.hid (fun (nq : Nat) (t : Int) => wrAt (w := wx.drewN nq) (c := nc) (H.out.s.gw (by rw [hz]; exact hb.trans ((below_drewN11 wx nq).mono (by rw [← hz]; exact hb.size)))) H.out.ne HNL.out t)
              obtain ⟨yf, yt, yk⟩ := y
              dsimp only at *
              obtain ⟨a, hA⟩ : ∃ a, ns.idxOf yf = a := ⟨_, rfl⟩
              obtain ⟨b, hB⟩ : ∃ b, ns.idxOf yt = b := ⟨_, rfl⟩
              rw [hA] at he ea an
              rw [hB] at he eb bn
              have CAa := Lib.hid (fun nq => (by have := CA.out nq yf; rwa [ea] at this : Calls Tryz.prog 40 #[.slice nA j nc, .int .i64 yf] (wx.drewN nq) fun e w' => e = .returned (.int .i64 ((a : Nat) : Int)) ∧ w' = wx.drewN nq))
              have CAb := Lib.hid (fun nq => (by have := CA.out nq yt; rwa [eb] at this : Calls Tryz.prog 40 #[.slice nA j nc, .int .i64 yt] (wx.drewN nq) fun e w' => e = .returned (.int .i64 ((b : Nat) : Int)) ∧ w' = wx.drewN nq))
              have HSO := Lib.hid hso
              have HB := Lib.hid hb
              have HLJ := Lib.hid hlj
              have HEK := Lib.hid he
              have HKQ := Lib.hid hkq
              have HAN := Lib.hid (And.intro an bn)
              have j1 : (k : Int) < (q : Int) := by omega
              have j2 : (k : Int) ≤ 8192 := by have := HGL.out; omega
              have j3 : (a : Int) < (j : Int) := by omega
              have j4 : (b : Int) < (j : Int) := by omega
              clear hy m1 m2 c2 he ea eb an bn hA hB hk hlj hso hb hkq CA
              go_upto_region 14 with fail
              refine wp_region_quiet_lit (by kernel_rfl) (by kernel_rfl) ?_
              iterate 7 (quiet_step (exact Calls.quiet_of_same (CAa.out _)))
              iterate 9 (quiet_step (exact Calls.quiet_of_same (CAb.out _)))
              refine wpQuiet_nil ?_
              intro _ hw'
              obtain ⟨nq, hw''⟩ := hw'
              subst hw''
              obtain ⟨X, hX⟩ : ∃ X, wx.drewN nq = X := ⟨_, rfl⟩
              have BX := Lib.hid (show Below wx.heap.size wx X by rw [← hX]; exact below_drewN11 _ _)
              rw [hX]
              clear hX c0 c1
              have hso := HSO.out.below BX.out
              have hbx := HB.out.trans (BX.out.mono (by rw [← hz]; exact HB.out.size))
              have cb := hso.intAt (v := b) (by rw [HLJ.out.len]; exact HAN.out.2)
              have ca := hso.intAt (v := a) (by rw [HLJ.out.len]; exact HAN.out.1)
              have fa := hso.own.frozenAt a
              have HS := Lib.hid hso
              have HBX := Lib.hid hbx
              obtain ⟨vb, hvb⟩ : ∃ v, gI d1 b = v := ⟨_, rfl⟩
              obtain ⟨va, hva⟩ : ∃ v, gI d1 a = v := ⟨_, rfl⟩
              have HVB := Lib.hid hvb
              have HVA := Lib.hid hva
              rw [hvb] at cb
              rw [hva] at ca
              clear hso hbx hvb hva
              by_cases p1 : vb = (s : Int)
              · have q1 : (vb == (s : Int)) = true := by simpa using p1
                by_cases p2 : va < 0
                · have HN := Lib.hid (HLJ.out.set HLEV.out HEK.out HAN.out.1 (by rw [HVB.out]; exact p1) (by rw [HVA.out]; exact p2))
                  have S3 := Lib.hid (show SO seI z (X.setCell ⟨z, a, none⟩ (.int .i64 ((s : Int) + 1))) (.slice (some ⟨z, 0, none⟩) j j) j (numC (d1.set a ((s : Int) + 1))) by rw [numC_setI]; exact HS.out.set1 a _ rfl)
                  subst p1
                  go_wp2
                  go_roundw
                  case rel => exact ⟨k + 1, _, by go_num, HKQ.out, HN.out, S3.out, HBX.out.setCell (p := ⟨z, a, none⟩) (Nat.le_refl _) _⟩
                  case measure => have := HKQ.out; simp [intOf]; omega
                · have HN := Lib.hid (HLJ.out.keep HLEV.out HEK.out (.inr (by rw [HVA.out]; omega)))
                  subst p1
                  go_wp2
                  go_roundw
                  case rel => exact ⟨k + 1, d1, by go_num, HKQ.out, HN.out, HS.out, HBX.out⟩
                  case measure => have := HKQ.out; simp [intOf]; omega
              · have q1 : (vb == (s : Int)) = false := by simpa using p1
                have HN := Lib.hid (HLJ.out.keep HLEV.out HEK.out (.inl (by rw [HVB.out]; exact p1)))
                clear p1
                go_wp2
                go_roundw
                case rel => exact ⟨k + 1, d1, by go_num, HKQ.out, HN.out, HS.out, HBX.out⟩
                case measure => have := HKQ.out; simp [intOf]; omega
            · obtain rfl : k = q := by omega
              have j1 : ¬ (k : Int) < (k : Int) := by omega
              have HN := Lib.hid (HLEV.out.next HOK.out (by rw [HEL.out]; exact hlj))
              have HSO := Lib.hid hso
              have HB := Lib.hid hb
              clear hk hlj hso hb hkq
              go_wp2
              go_roundw
              case rel => exact ⟨s + 1, d1, by go_num, HLT.out, HN.out, HSO.out, HB.out⟩
              case measure => have := HLT.out; simp [intOf]; omega
        · obtain rfl : s = j := by omega
          have i1 : ¬ (s : Int) < (s : Int) := by omega
          have HLEV := Lib.hid hlev
          have HSO := Lib.hid hso
          have HB := Lib.hid hb
          clear hs hlev hso hb hlt
          go_wp2
          go_ret
          subst hz
          exact ⟨rfl, ⟨d0, HLEV.out, HSO.out⟩, HB.out⟩
set_option maxHeartbeats 32000000 in
theorem wrThrough {q f : Nat} {t : Int} {base g : Nat} {d : List Int} (h : Nms w gA q GR nA n ns) (hf : ns[f]? = some t) (hF : FarIs (edgesP ns GR) n f d) (hso : SO seI base w (.slice (some ⟨g, 0, none⟩) n n) n (numC d)) :
    Calls Tryz.prog 47 #[.slice gA q gc, .slice nA n nc, .slice (some ⟨g, 0, none⟩) n n, .int .i64 t] w fun e w' => ∃ b : Nat, e = .returned (.int .i64 (b : Nat)) ∧ b ≤ 5000 ∧ Thr (edgesP ns GR) f n d b ∧ w' = w := by
  have H := Lib.hid h
  have HF := Lib.hid hF
  have HSO := Lib.hid hso
  have HNL := Lib.hid h.nl
  have HGL := Lib.hid h.gl
  have HED := Lib.hid (fun (j : Nat) (x : Int) (hx : ns[j]? = some x) => lead_edge h.nd h.mem hf hx)
  have CL := Lib.hid (fun (W : World) (hW : W = w) (a b : Int) => hW ▸ wrLeads (gc := gc) h.g h.qe h.gl a b)
  obtain ⟨E, hE⟩ : ∃ E, edgesP ns GR = E := ⟨_, rfl⟩
  rw [hE] at HF HED ⊢
  clear h hf hF hso hE
  go_enter Tryz.func47, Tryz.ntmps47
  go_upto_region 3 with fail
  go_loopw [9, 10] (fun bv i wr => ∃ j b : Nat, i = .int .i64 (j : Nat) ∧ bv = .int .i64 (b : Nat) ∧ j ≤ n ∧ b ≤ 5000 ∧ Thr E f j d b ∧ wr = w) (fun _ i _ => n - (intOf i).toNat)
  case atStart => exact ⟨0, 0, rfl, rfl, Nat.zero_le _, Nat.zero_le _, Thr.start, rfl⟩
  case round =>
    rename World => wr
    obtain ⟨j, b, rfl, rfl, hj, hb, ht, rfl⟩ := hrel
    by_cases hlt : j < n
    · obtain ⟨x, hx⟩ : ∃ x, ns[j]? = some x := ⟨_, List.getElem?_eq_getElem (by rw [H.out.ne]; exact hlt)⟩
      obtain ⟨gn, on, rfl, c0⟩ := H.out.s.num hx
      have cj := HSO.out.intAt (v := j) (by rw [HF.out.len]; exact hlt)
      have hlow := HF.out.low j
      have HEJ := Lib.hid (HED.out j x hx)
      have C1 := Lib.hid (CL.out wr rfl t x)
      obtain ⟨v, hv⟩ : ∃ v, gI d j = v := ⟨_, rfl⟩
      obtain ⟨r, hr⟩ : ∃ r, leadB GR t x = r := ⟨_, rfl⟩
      rw [hr] at HEJ C1
      rw [hv] at cj hlow
      have HV := Lib.hid hv
      have HT := Lib.hid ht
      have HLT := Lib.hid hlt
      have HB := Lib.hid hb
      have i1 : (j : Int) < (n : Int) := by omega
      have l1 : (j : Int) ≤ 4096 := by have := HNL.out; omega
      have l2 : v ≤ 4096 := by have := HNL.out; omega
      have l3 : -1 ≤ v := hlow.1
      clear hx hv hr ht hj hlt hb hlow
      cases r
      · have HK := Lib.hid (HT.out.keep (fun k => absurd (HEJ.out.2 k.1) (by decide)))
        go_wp2_with (go_at_call 49; go_loud (refine C1.out.mono ?_; rintro e w2 ⟨rfl, hw2⟩; replace hw2 := hw2.symm; subst hw2))
        go_roundw
        case rel => exact ⟨j + 1, b, by go_num, rfl, HLT.out, HB.out, HK.out, by first | rfl | trivial⟩
        case measure => have := HLT.out; simp [intOf]; omega
      · have HIN := Lib.hid (HEJ.out.1 rfl)
        by_cases p1 : 0 ≤ v
        · obtain ⟨m, hm⟩ : ∃ m : Nat, v = (m : Int) := ⟨v.toNat, by omega⟩
          subst hm
          by_cases p2 : b = 0
          · subst p2
            have HK := Lib.hid (HT.out.new HIN.out HV.out (.inl rfl))
            go_wp2_with (go_at_call 49; go_loud (refine C1.out.mono ?_; rintro e w2 ⟨rfl, hw2⟩; replace hw2 := hw2.symm; subst hw2))
            go_roundw
            case rel => exact ⟨j + 1, m + 1, by go_num, by go_num, HLT.out, by omega, HK.out, by first | rfl | trivial⟩
            case measure => have := HLT.out; simp [intOf]; omega
          · have p3 : ((b : Int) == 0) = false := by simp; omega
            have p2' : ¬ (b : Int) = 0 := by omega
            have l4 : (b : Int) ≤ 5000 := by have := HB.out; omega
            by_cases p4 : m + 1 < b
            · have p5 : (m : Int) + 1 < (b : Int) := by omega
              have HK := Lib.hid (HT.out.new HIN.out HV.out (.inr p4))
              go_wp2_with (go_at_call 49; go_loud (refine C1.out.mono ?_; rintro e w2 ⟨rfl, hw2⟩; replace hw2 := hw2.symm; subst hw2))
              go_roundw
              case rel => exact ⟨j + 1, m + 1, by go_num, by go_num, HLT.out, by omega, HK.out, by first | rfl | trivial⟩
              case measure => have := HLT.out; simp [intOf]; omega
            · have p5 : ¬ (m : Int) + 1 < (b : Int) := by omega
              have HK := Lib.hid (HT.out.keep (fun _ => ⟨by omega, by rw [HV.out]; omega⟩))
              go_wp2_with (go_at_call 49; go_loud (refine C1.out.mono ?_; rintro e w2 ⟨rfl, hw2⟩; replace hw2 := hw2.symm; subst hw2))
              go_roundw
              case rel => exact ⟨j + 1, b, by go_num, rfl, HLT.out, HB.out, HK.out, by first | rfl | trivial⟩
              case measure => have := HLT.out; simp [intOf]; omega
        · have HK := Lib.hid (HT.out.keep (fun k => absurd k.2 (by rw [HV.out]; exact p1)))
          go_wp2_with (go_at_call 49; go_loud (refine C1.out.mono ?_; rintro e w2 ⟨rfl, hw2⟩; replace hw2 := hw2.symm; subst hw2))
          go_roundw
          case rel => exact ⟨j + 1, b, by go_num, rfl, HLT.out, HB.out, HK.out, by first | rfl | trivial⟩
          case measure => have := HLT.out; simp [intOf]; omega
    · obtain rfl : j = n := by omega
      have i1 : ¬ (j : Int) < (j : Int) := by omega
      have HT := Lib.hid ht
      have HB := Lib.hid hb
      clear ht hj hlt hb
      go_wp2
      go_ret
      exact ⟨b, rfl, HB.out, HT.out, rfl⟩
end
end Go.Proofs.YtbmgeobmmpaghaaGreatDoor

namespace Go.Proofs.YtbmgeobmmpaghaaGreatDoor
set_option maxRecDepth 100000
open Go.RowKit

def nmP (ns : List Int) (x : Nat) : Int := ns.getD x 0
theorem nm_at {ns : List Int} {x : Nat} (h : x < ns.length) : ns[x]? = some (nmP ns x) := by unfold nmP; rw [List.getD_eq_getElem?_getD, List.getElem?_eq_getElem h]; rfl
theorem nm_snoc (ns : List Int) (L : List Nat) (u : Nat) : numC (L.map (nmP ns)) ++ [.int .i64 (nmP ns u)] = numC ((L ++ [u]).map (nmP ns)) := by simp [numC]
section
variable {w : World} {A B : Option Addr} {n c m d : Nat} {cs : List Int} {ac : List Ac}
set_option maxHeartbeats 64000000 in
theorem wrRound (h : Hist w A n c B m d cs ac) (hR : Right cs ac) :
    Calls Tryz.prog 21 #[histV A n c B m d] w fun e w' => ∃ v, e = .returned v ∧ ∃ l, RdIs cs ac l ∧ SO seI w.heap.size w' v l.length (numC l) ∧ Below w.heap.size w w' := by
  obtain ⟨W0, hB⟩ := h.box
  have HB := Lib.hid hB
  have HW := Lib.hid hB.eq
  have x0 := hB.x0
  have x1 := hB.x1
  have hn : n ≤ 4096 := by rw [← h.cl]; exact hR.lc
  have hm : m ≤ 4096 := by rw [← h.al]; exact hR.la
  have CG := Lib.hid (fun W (hW : Below W0.heap.size W0 W) => wrGraph (hB.h.gw hW) hn hm)
  have CS := Lib.hid (fun W (hW : Below W0.heap.size W0 W) => wrSorted (c := c) (hB.h.cb.gw hW) hB.h.cl hn hR.nd)
  have HGL := Lib.hid (show (graphP cs ac).length ≤ 8192 by have := hR.edges_len; unfold edgesP at this; rwa [List.length_map] at this)
  have hrl : (riseP cs).length = cs.length := by rw [← sorted_is hR.nd, List.length_mergeSort]
  have HRL := Lib.hid (show (riseP cs).length ≤ 4096 by rw [hrl]; exact hR.lc)
  have HND := Lib.hid (show (riseP cs).Nodup by
    rw [List.nodup_iff_pairwise_ne]
    exact (rise_is cs).1.imp fun {a b} hab e => by rw [e] at hab; simp [ltN] at hab)
  have HMM := Lib.hid (show ∀ y ∈ graphP cs ac, y.fr ∈ riseP cs ∧ y.to ∈ riseP cs from fun y hy => ⟨((rise_is cs).2 _).2 (hR.graph_mem hy).1, ((rise_is cs).2 _).2 (hR.graph_mem hy).2.1⟩)
  have HOK := Lib.hid (show EdOk (edgesP (riseP cs) (graphP cs ac)) (riseP cs).length by rw [hrl]; exact hR.edOk)
  have HRD := Lib.hid (show ∀ L : List Nat, RoundIs (edgesP (riseP cs) (graphP cs ac)) (riseP cs).length L → (∀ x ∈ L, x < (riseP cs).length) → RdIs cs ac (L.map (nmP (riseP cs))) from fun L h1 h2 => by rw [hrl] at h1 h2; exact ⟨L, h1, h2, rfl⟩)
  have S0 : W0.drew.cell? ⟨w.heap.size, 0, none⟩ = some (.slice A n c) ∧ W0.drew.cell? ⟨w.heap.size, 1, none⟩ = some (.slice B m d) := ⟨x0, x1⟩
  have BD := Lib.hid (show Below W0.heap.size W0 W0.drew from (Below.refl _ _).drew)
  have SK := Lib.hid (fun W (hW : Below W0.heap.size W0 W) => (⟨keep_below x0 hW, keep_below x1 hW⟩ : W.cell? ⟨w.heap.size, 0, none⟩ = some (.slice A n c) ∧ W.cell? ⟨w.heap.size, 1, none⟩ = some (.slice B m d)))
  obtain ⟨GR, hGR⟩ : ∃ g, graphP cs ac = g := ⟨_, rfl⟩
  obtain ⟨NS, hNS⟩ : ∃ g, riseP cs = g := ⟨_, rfl⟩
  rw [hGR] at CG HGL HMM HOK HRD
  rw [hNS] at CS HRL HND HMM HOK HRD
  unfold histV at CG ⊢
  clear h hB hR hn hm hGR hNS hrl
  go_enter Tryz.func21, Tryz.ntmps21
  go_upto_region 1 with fail
  rw [HW.out]
  go_cut [3, 4] (fun v3 v4 wx => DL wx v3 GR ∧ SO seI W0.heap.size wx v4 NS.length (numC NS) ∧ Below W0.heap.size W0 wx)
  case first =>
    go_region_held3 (fun W => W.cell? ⟨w.heap.size, 0, none⟩ = some (.slice A n c) ∧ W.cell? ⟨w.heap.size, 1, none⟩ = some (.slice B m d)) (first | exact S0 | exact SK.out _ B2.out | exact SK.out _ B3.out | exact SK.out _ BD.out) (first
      | (go_at_call 13; go_loud (refine (CG.out _ (by first | exact B3.out | exact BD.out)).mono ?_; rintro e w2 ⟨v2, rfl, d2, b2⟩; have B2 := Lib.hid (show Below W0.heap.size W0 w2 by first | exact below_next B3.out b2 | exact below_next BD.out b2); have D2 := Lib.hid d2; have Q2 := Lib.hid b2; clear d2 b2))
      | (go_at_call 35; go_loud (refine (CS.out _ (by first | exact B2.out | exact BD.out)).mono ?_; rintro e w3 ⟨v3, rfl, s3, b3⟩; have B3 := Lib.hid (show Below W0.heap.size W0 w3 by first | exact below_next B2.out b3 | exact below_next BD.out b3); have S3 := Lib.hid s3; have Q3 := Lib.hid b3; clear s3 b3)))
    all_goals go_wp2_with fail
    all_goals go_meet
    all_goals (first | exact ⟨D2.out.gw Q3.out, S3.out.lower B2.out.size, B3.out⟩ | exact ⟨D2.out, (S3.out.lower (Nat.le_refl _)).below Q2.out, B2.out⟩)
  case rest =>
    rename World => wc
    obtain ⟨⟨GA, gc, rfl, gs, ggc, gcm⟩, hso, hbc⟩ := hcut
    obtain ⟨NA, nc, rfl, nsb, nnc, ncm, -⟩ := hso.form
    have nsb : SB wc NA NS.length (numC NS) := by have e : seI.s * NS.length = NS.length := Nat.one_mul _; rwa [e] at nsb
    obtain ⟨q, hq⟩ : ∃ q, GR.length = q := ⟨_, rfl⟩
    obtain ⟨r, hr⟩ : ∃ r, NS.length = r := ⟨_, rfl⟩
    obtain ⟨E, hE⟩ : ∃ E, edgesP NS GR = E := ⟨_, rfl⟩
    rw [hr] at HRL HOK HRD nsb
    rw [hq] at HGL
    have NM := Lib.hid (show Nms wc GA q GR NA r NS from ⟨gs, hq, HGL.out, nsb, hr, HRL.out, HND.out, HMM.out, HOK.out⟩)
    have HEQ := Lib.hid hE
    rw [hE] at HOK HRD
    have HRR := Lib.hid hr
    rw [hq, hr]
    have BC := Lib.hid (show Below w.heap.size w wc from below_next HB.out.below hbc)
    clear gs ggc gcm hso nsb nnc ncm hq hr hbc S0 x0 x1 hE CG CS SK BD
    go_upto_region 4 with fail
    go_loopw [5, 6, 7] (fun bv fv iv wr => ∃ (j best f : Nat) (y : Int), iv = .int .i64 (j : Nat) ∧ bv = .int .i64 (best : Nat) ∧ fv = .int .i64 y ∧ j ≤ r ∧ best ≤ 5000 ∧ (0 < best → y = nmP NS f) ∧ Sl E j best f ∧ Below wc.heap.size wc wr) (fun _ _ iv _ => r - (intOf iv).toNat)
    case atStart => exact ⟨0, 0, 0, 0, rfl, rfl, rfl, Nat.zero_le _, Nat.zero_le _, fun h => absurd h (by omega), Sl.start, Below.refl _ _⟩
    case round =>
      rename World => wr
      obtain ⟨j, best, f, y, rfl, rfl, rfl, hj, hb5, hy, hsl, hb⟩ := hrel
      have NMR := Lib.hid (NM.out.gw hb)
      by_cases hlt : j < r
      · have hx := nm_at (ns := NS) (x := j) (by rw [HRR.out]; exact hlt)
        obtain ⟨x, hxx⟩ : ∃ x, nmP NS j = x := ⟨_, rfl⟩
        rw [hxx] at hx
        obtain ⟨gn, on, rfl, c0⟩ := NMR.out.s.num hx
        have HX := Lib.hid hx
        have HXX := Lib.hid hxx
        have HY := Lib.hid hy
        have HSL := Lib.hid hsl
        have HB2 := Lib.hid hb
        have HB5 := Lib.hid hb5
        have HLT := Lib.hid hlt
        have i1 : (j : Int) < (r : Int) := by omega
        have l1 : (j : Int) ≤ 4096 := by have := HRL.out; omega
        have BD := Lib.hid (show Below wr.heap.size wr wr.drew from (Below.refl _ _).drew)
        have CF := Lib.hid (fun W (hW : Below wr.heap.size wr W) => wrFar (gc := gc) (nc := nc) (NMR.out.gw hW) HX.out)
        have S0 : wr.drew.cell? ⟨gn, on + j, none⟩ = some (.int .i64 x) := c0
        have SK := Lib.hid (fun W (hW : Below wr.heap.size wr W) => (keep_below c0 hW : W.cell? ⟨gn, on + j, none⟩ = some (.int .i64 x)))
        clear hx hxx hy hsl hb hb5 hlt hj
        go_upto_region 6 with fail
        go_cut [8] from 18 to 53 (fun v wx => ∃ b : Nat, v = .int .i64 (b : Nat) ∧ b ≤ 5000 ∧ ((b = 0 → ∀ k, ¬ Way E k j j) ∧ (0 < b → DistIs E b j j)) ∧ Below wr.heap.size wr wx)
        case first =>
          go_region_held3 (fun W => W.cell? ⟨gn, on + j, none⟩ = some (.int .i64 x)) (first | exact S0 | exact SK.out _ B2.out | exact SK.out _ BD.out) (first
            | (go_at_call 48; go_loud (refine (CF.out _ BD.out).mono ?_; rintro e w2 ⟨rfl, ⟨d2, f2, s2⟩, b2⟩; have B2 := Lib.hid (show Below wr.heap.size wr w2 from below_next BD.out b2); have F2 := Lib.hid f2; have S2 := Lib.hid s2; clear f2 s2 b2))
            | (go_at_call 47; go_loud (refine (wrThrough (gc := gc) (nc := nc) (NMR.out.gw B2.out) HX.out F2.out S2.out).mono ?_; rintro e w3 ⟨b, rfl, t5, t6, rfl⟩; have T5 := Lib.hid t5; have T6 := Lib.hid t6; clear t5 t6)))
          all_goals go_wp2_with fail
          all_goals go_meet
          all_goals exact ⟨b, rfl, T5.out, by have := T6.out.is (by rw [HEQ.out]; exact HOK.out) F2.out; rwa [HEQ.out] at this, B2.out⟩
        case rest =>
          rename World => wx
          obtain ⟨b, rfl, hb5, hbi, hbx⟩ := hcut
          have HBI := Lib.hid hbi
          have HBX := Lib.hid (HB2.out.trans (hbx.mono HB2.out.size))
          have cx := keep_below c0 hbx
          have HB6 := Lib.hid hb5
          have l5 : (best : Int) ≤ 5000 := by have := HB5.out; omega
          have l6 : (b : Int) ≤ 5000 := by omega
          clear hbi hbx hb5 c0 S0 SK
          by_cases b0 : b = 0
          · subst b0
            have HK := Lib.hid (HSL.out.keep HBI.out (.inl rfl))
            clear l5 l6
            go_wp2
            go_roundw
            case rel => exact ⟨j + 1, best, f, y, by go_num, rfl, rfl, HLT.out, HB5.out, HY.out, HK.out, HBX.out⟩
            case measure => have := HLT.out; simp [intOf]; omega
          · have p0 : (0 : Int) < (b : Int) := by omega
            by_cases b1 : best = 0
            · subst b1
              have HK := Lib.hid (HSL.out.new HBI.out (by omega) (.inl rfl))
              go_upto_region 8 with fail
              go_quiet (fail)
              go_wp2
              go_roundw
              case rel => exact ⟨j + 1, b, j, x, by go_num, rfl, rfl, HLT.out, HB6.out, fun _ => HXX.out.symm, HK.out, below_next HBX.out (below_drewN11 _ _)⟩
              case measure => have := HLT.out; simp [intOf]; omega
            · have p1 : ((best : Int) == 0) = false := by simp; omega
              have p1' : ¬ (best : Int) = 0 := by omega
              by_cases b2 : b < best
              · have p2 : (b : Int) < (best : Int) := by omega
                have HK := Lib.hid (HSL.out.new HBI.out (by omega) (.inr b2))
                go_upto_region 8 with fail
                go_quiet (fail)
                go_wp2
                go_roundw
                case rel => exact ⟨j + 1, b, j, x, by go_num, rfl, rfl, HLT.out, HB6.out, fun _ => HXX.out.symm, HK.out, below_next HBX.out (below_drewN11 _ _)⟩
                case measure => have := HLT.out; simp [intOf]; omega
              · have p2 : ¬ (b : Int) < (best : Int) := by omega
                have HK := Lib.hid (HSL.out.keep HBI.out (.inr ⟨by omega, by omega⟩))
                go_wp2
                go_roundw
                case rel => exact ⟨j + 1, best, f, y, by go_num, rfl, rfl, HLT.out, HB5.out, HY.out, HK.out, HBX.out⟩
                case measure => have := HLT.out; simp [intOf]; omega
      · obtain rfl : j = r := by omega
        have i1 : ¬ (j : Int) < (j : Int) := by omega
        have HSL := Lib.hid hsl
        have HB2 := Lib.hid hb
        have HB5 := Lib.hid hb5
        by_cases hbe : best = 0
        · subst hbe
          clear hj hy hsl hb hb5 hlt
          go_wp2
          go_ret
          exact ⟨_, rfl, [], HRD.out [] (.inl ⟨rfl, fun x k hx => HSL.out.none rfl x hx k⟩) (by simp), SO.nil _ _ _, BC.out.trans (HB2.out.mono BC.out.size)⟩
        · have hbp : 0 < best := by omega
          obtain rfl := hy hbp
          have hfr := HSL.out.lt hbp
          have p1 : ((best : Int) == 0) = false := by simp; omega
          have p1' : ¬ (best : Int) = 0 := by omega
          have HFX := Lib.hid (nm_at (ns := NS) (x := f) (by rw [HRR.out]; exact hfr))
          have CF := Lib.hid (wrFar (gc := gc) (nc := nc) NMR.out HFX.out)
          have CN0 := Lib.hid (Cn.start HSL.out hbp)
          have HBP := Lib.hid hbp
          clear hj hy hsl hb hb5 hlt hbe hbp hfr
          go_upto_region 12 with (go_at_call 48; go_loud (refine CF.out.mono ?_; rintro e wd ⟨rfl, ⟨dd, fd, sd⟩, bd⟩; have FD := Lib.hid fd; have SD := Lib.hid sd; have BD := Lib.hid bd; clear fd sd bd))
          obtain ⟨gd, hgd⟩ : ∃ g, wr.heap.size = g := ⟨_, rfl⟩
          rw [hgd] at SD ⊢
          have HGD := Lib.hid hgd
          clear hgd
          obtain ⟨Y, hY⟩ : ∃ Y, wd.alloc (.cells #[.int .i64 (nmP NS f)] 3) = Y := ⟨_, rfl⟩
          have HY := Lib.hid hY
          have SY := Lib.hid (show SO seI wd.heap.size Y (.slice (some ⟨wd.heap.size, 0, none⟩) 1 1) 1 (numC ([f].map (nmP NS))) by rw [← hY]; exact so_lit1 wd _ _ (Nat.le_refl _))
          have BY := Lib.hid (show Below wd.heap.size wd Y by rw [← hY]; exact alloc_below11 wd _)
          clear hY
          go_upto_region 13 with fail
          rw [HY.out]
          go_loopg [10] best (fun gk lv wr => ∃ (L : List Nat) (at_ left : Nat), gk = left + 1 ∧ Cn E j f best L at_ left ∧ SO seI wd.heap.size wr lv L.length (numC (L.map (nmP NS))) ∧ Below wd.heap.size wd wr)
          case atStart => exact ⟨[f], f, best - 1, by have := HBP.out; omega, CN0.out, SY.out, BY.out⟩
          case round =>
            rename World => wr2
            obtain ⟨L, at_, left, hgk, hcn, hso, hb⟩ := hrel
            have hlen := hcn.len
            have hlast := hcn.last
            have hlt := hcn.lt
            obtain ⟨k, hk⟩ : ∃ k, L.length = k + 1 := ⟨L.length - 1, by have := (List.getElem?_eq_some_iff.1 hcn.hd).1; omega⟩
            rw [hk] at hso hlen hlast
            rw [Nat.add_sub_cancel] at hlast
            obtain ⟨A3, c3, rfl, hsb3, hlc3, hcm3, -⟩ := hso.form
            have hsb3 : SB wr2 A3 (k + 1) (numC (L.map (nmP NS))) := by have e : seI.s * (k + 1) = k + 1 := Nat.one_mul _; rwa [e] at hsb3
            have HSO := Lib.hid hso
            have HB3 := Lib.hid hb
            have HCN := Lib.hid hcn
            have HGK := Lib.hid hgk
            have HK := Lib.hid hk
            have HLEN := Lib.hid hlen
            have l5 : (best : Int) ≤ 5000 := by have := HB5.out; omega
            have l6 : (k : Int) ≤ 5000 := by have := HB5.out; omega
            by_cases hl0 : left = 0
            · subst hl0
              have RD := Lib.hid (HRD.out L (hcn.round HSL.out HBP.out) (fun x hx => hcn.lt x hx))
              have i2 : ¬ (k : Int) + 1 < (best : Int) := by omega
              clear hgk hcn hso hb hlen hlast hlt hk hsb3 hlc3 hcm3
              go_wp2
              go_ret
              refine ⟨_, rfl, L.map (nmP NS), RD.out, ?_, BC.out.trans ((HB2.out.trans ((BD.out.trans (HB3.out.mono BD.out.size)).mono HB2.out.size)).mono BC.out.size)⟩
              rw [List.length_map, HK.out]
              exact HSO.out.lower (by have := BC.out.size; have := HB2.out.size; have := BD.out.size; omega)
            · obtain ⟨l2, rfl⟩ : ∃ l2, left = l2 + 1 := ⟨left - 1, by omega⟩
              have i2 : (k : Int) + 1 < (best : Int) := by omega
              have hatr := hlt at_ (List.mem_of_getElem? hlast)
              obtain ⟨g3, o3, rfl, c3a⟩ := hsb3.num (j := k) (x := nmP NS at_) (by rw [List.getElem?_map, hlast]; rfl)
              have NM2 := Lib.hid (NMR.out.gw (BD.out.trans (hb.mono BD.out.size)))
              have SD2 := Lib.hid (SD.out.below hb)
              have HAT := Lib.hid (nm_at (ns := NS) (x := at_) (by rw [HRR.out]; exact hatr))
              obtain ⟨la, hla⟩ : ∃ x, nmP NS at_ = x := ⟨_, rfl⟩
              rw [hla] at c3a HAT
              have i3 : (0 : Int) ≤ (k : Int) := by omega
              have i4 : (k : Int) < (k : Int) + 1 := by omega
              clear hgk hcn hso hb hlen hlast hlt hk hsb3 hlc3 hcm3 hl0 hatr hla
              go_upto_region 16 with fail
              go_loopw [10, 12] (fun rv iv wy => ∃ z : Nat, iv = .int .i64 (z : Nat) ∧ rv = .slice (some ⟨g3, o3, none⟩) (k + 1) c3 ∧ z ≤ j ∧ wy = wr2 ∧ ∀ u, u < z → (at_, u) ∈ E → ¬ DistIs E (l2 + 1) u f) (fun _ iv _ => j - (intOf iv).toNat)
              case atStart => exact ⟨0, rfl, rfl, Nat.zero_le _, rfl, fun u hu => absurd hu (Nat.not_lt_zero _)⟩
              case round =>
                rename World => wy
                obtain ⟨z, rfl, rfl, hz, rfl, hno⟩ := hrel
                by_cases hzj : z < j
                · have hx := nm_at (ns := NS) (x := z) (by rw [HRR.out]; exact hzj)
                  have hed := lead_edge NM2.out.nd NM2.out.mem HAT.out hx
                  rw [HEQ.out] at hed
                  have CL := wrLeads (gc := gc) NM2.out.g NM2.out.qe NM2.out.gl la (nmP NS z)
                  obtain ⟨x, hxx⟩ : ∃ x, nmP NS z = x := ⟨_, rfl⟩
                  rw [hxx] at hx hed CL
                  obtain ⟨gn, on, rfl, c0⟩ := NM2.out.s.num hx
                  have cz := SD2.out.intAt (v := z) (by rw [FD.out.len]; exact hzj)
                  obtain ⟨v, hv⟩ : ∃ v, gI dd z = v := ⟨_, rfl⟩
                  rw [hv] at cz
                  obtain ⟨r1, hr1⟩ : ∃ r1, leadB GR la x = r1 := ⟨_, rfl⟩
                  rw [hr1] at hed CL
                  have HED := Lib.hid hed
                  have HCL := Lib.hid CL
                  have HV := Lib.hid hv
                  have HXX := Lib.hid hxx
                  have HZJ := Lib.hid hzj
                  have HNO := Lib.hid hno
                  have j1 : (z : Int) < (j : Int) := by omega
                  have j2 : (z : Int) ≤ 4096 := by have := HRL.out; omega
                  have hfd := FD.out
                  rw [HEQ.out] at hfd
                  have HFD := Lib.hid hfd
                  have ENXT := Lib.hid (show ((at_, z) ∈ E → ¬ DistIs E (l2 + 1) z f) → ∀ u, u < z + 1 → (at_, u) ∈ E → ¬ DistIs E (l2 + 1) u f from fun h u hu he => by
                    rcases Nat.lt_or_ge u z with q | q
                    · exact HNO.out u q he
                    · have : u = z := by omega
                      subst this
                      exact h he)
                  clear hx hed CL hxx hv hr1 hzj hno hz hfd
                  cases r1
                  · have HN2 := Lib.hid (ENXT.out (fun he => absurd (HED.out.2 he) (by decide)))
                    go_wp2_with (go_at_call 49; go_loud (refine HCL.out.mono ?_; rintro e w2 ⟨rfl, hw2⟩; replace hw2 := hw2.symm; subst hw2))
                    go_roundw
                    case rel => exact ⟨z + 1, by go_num, rfl, HZJ.out, by first | rfl | trivial, HN2.out⟩
                    case measure => have := HZJ.out; simp [intOf]; omega
                  · have HIN := Lib.hid (HED.out.1 rfl)
                    by_cases hvl : v = (best : Int) - ((k : Int) + 1)
                    · have hvb : (v == (best : Int) - ((k : Int) + 1)) = true := by simpa using hvl
                      have hvn : gI dd z = ((l2 + 1 : Nat) : Int) := by rw [HV.out, hvl]; have := HLEN.out; omega
                      have hzf : z ≠ f := fun e => by have := HFD.out.aim; rw [← e, hvn] at this; omega
                      have hdz := (HFD.out.dist HOK.out hzf (by omega)).1 hvn
                      have HCN2 := Lib.hid (HCN.out.next HOK.out HIN.out hdz (fun u hu hdu => by
                        rcases Nat.lt_or_ge u z with q | q
                        · exact absurd hdu (HNO.out u q hu)
                        · exact q))
                      have SBX := Lib.hid (show SB (wy.alloc (.cells #[.int .i64 x] 3)) (some ⟨wy.heap.size, 0, none⟩) (seI.s * 1) [.int .i64 x] from ⟨rfl, fun u hu => by rw [List.mem_singleton.1 hu]; rfl, fun _ => ⟨wy.heap.size, 0, rfl, fun i u hi => by
                        rw [cell_of_row _ _ _ _ _ _ (heap_alloc_new wy _)]
                        simpa using hi⟩⟩)
                      have SOY := Lib.hid (HSO.out.alloc (.cells #[.int .i64 x] 3))
                      clear hvn hzf hdz
                      go_wp2_with (first
                        | (go_at_call 49; go_loud (refine HCL.out.mono ?_; rintro e w2 ⟨rfl, hw2⟩; replace hw2 := hw2.symm; subst hw2))
                        | (at_builtin; go_loud (refine so_append seI_ok (by rfl) (.tmp 96) (.tmp 101) (by rfl) _ (by rfl) SOY.out (some ⟨wy.heap.size, 0, none⟩) 1 1 [.int .i64 x] (by rfl) SBX.out (by have := HLEN.out; have := HB5.out; omega) (by have := HB3.out.size; simp; omega) ?_; intro v5 w5 o5 b5; have O5 := Lib.hid o5; have B5 := Lib.hid b5; clear o5 b5)))
                      go_roundg (gk - 1)
                      case measure => have := HGK.out; omega
                      case rel =>
                        refine ⟨L ++ [z], z, l2, by have := HGK.out; omega, HCN2.out, ?_, (HB3.out.alloc HB3.out.size _).trans B5.out⟩
                        rw [List.length_append, List.length_singleton, HK.out, ← nm_snoc, HXX.out]
                        exact O5.out
                    · have hvb : (v == (best : Int) - ((k : Int) + 1)) = false := by simpa using hvl
                      have HN2 := Lib.hid (ENXT.out (fun he hdz => by
                        have hzf := HCN.out.ne (HSL.out.is HBP.out) (by have := HLEN.out; omega) hdz
                        have := (HFD.out.dist HOK.out hzf (by omega)).2 hdz
                        rw [HV.out] at this
                        have := HLEN.out
                        exact hvl (by omega)))
                      go_wp2_with (go_at_call 49; go_loud (refine HCL.out.mono ?_; rintro e w2 ⟨rfl, hw2⟩; replace hw2 := hw2.symm; subst hw2))
                      go_roundw
                      case rel => exact ⟨z + 1, by go_num, rfl, HZJ.out, by first | rfl | trivial, HN2.out⟩
                      case measure => have := HZJ.out; simp [intOf]; omega
                · exfalso
                  obtain ⟨u, hu, hdu⟩ := HCN.out.found (by omega)
                  have := (HOK.out.lt _ hu).2
                  exact hno u (by omega) hu hdu
end
end Go.Proofs.YtbmgeobmmpaghaaGreatDoor

namespace Go.Proofs.YtbmgeobmmpaghaaGreatDoor
set_option maxRecDepth 100000
open Go.RowKit

theorem RdIs.len {cs : List Int} {ac : List Ac} {l : List Int} (hR : Right cs ac) (h : RdIs cs ac l) : l.length ≤ 4096 := by
  obtain ⟨r, h1, -, rfl⟩ := h
  rw [List.length_map]
  have hn := hR.lc
  rcases h1 with ⟨rfl, -⟩ | ⟨f, k, a1, a2, a3, a4, a5, -⟩
  · simp
  · have : DistIs (edgesP (riseP cs) (graphP cs ac)) k f f := ⟨a2, fun i hi => a3 f i a1 hi⟩
    have := dist_le hR.edOk this
    omega
section
variable {w : World} {A B : Option Addr} {n c m d : Nat} {cs : List Int} {ac : List Ac}
set_option maxHeartbeats 32000000 in
theorem walkRounds (h : Hist w A n c B m d cs ac) :
    Calls Tryz.prog 5 #[histV A n c B m d] w fun e w' => e = .returned (.bool true) ∧ Below w.heap.size w w' := by
  obtain ⟨W0, hB⟩ := h.box
  have HB := Lib.hid hB
  have HW := Lib.hid hB.eq
  have x0 := hB.x0
  have x1 := hB.x1
  have CL := Lib.hid wlLive
  by_cases hR : Right cs ac
  · have CR := Lib.hid (wlRightOk hB.h hR)
    have CO := Lib.hid (fun W (hW : Below W0.heap.size W0 W) => wsRoundOk (hB.h.gw hW) hR)
    have KO := Lib.hid (fun W (hW : Below W0.heap.size W0 W) => wrRound (hB.h.gw hW) hR)
    have HLE := Lib.hid (fun (l : List Int) (hl : RdIs cs ac l) => hl.len hR)
    unfold histV at CR CO KO ⊢
    clear h hB hR
    go_enter Tryz.func5, Tryz.ntmps5
    go_upto_region 1 with fail
    rw [HW.out]
    go_upto_region 2 with (go_at_call 8; go_loud (refine CR.out.mono ?_; rintro e w1 ⟨rfl, b1⟩; have B1 := Lib.hid b1; have y0 := keep_below x0 b1; have y1 := keep_below x1 b1; clear b1))
    clear x0 x1
    go_upto_region 4 with (go_at_call 9; go_loud (refine (CL.out _).mono ?_; rintro e w2 ⟨rfl, b2⟩; have B2 := Lib.hid (below_next B1.out b2); have z0 := keep_below y0 b2; have z1 := keep_below y1 b2; clear b2))
    clear y0 y1
    go_upto_region 5 with (go_at_call 20; go_loud (refine (CO.out _ B2.out).mono ?_; rintro e w3 ⟨v3, rfl, l3, r3, s3, b3⟩; have R3 := Lib.hid r3; have S3 := Lib.hid s3; have B3 := Lib.hid (below_next B2.out b3); have y0 := keep_below z0 b3; have y1 := keep_below z1 b3; clear b3 s3 r3))
    clear z0 z1
    obtain ⟨A3, c3, rfl, h3, -⟩ := S3.out.form
    have h3 : SB w3 A3 l3.length (numC l3) := by have e : seI.s * l3.length = l3.length := Nat.one_mul _; rwa [e] at h3
    have H3 := Lib.hid h3
    have HL3 := Lib.hid (HLE.out l3 R3.out)
    clear h3
    go_wp2_with (first
      | (go_at_call 21; go_loud (refine (KO.out _ B3.out).mono ?_; rintro e w5 ⟨v5, rfl, l5, r5, s5, b5⟩; obtain rfl := RdIs.unique R3.out r5; obtain ⟨A5, c5, rfl, h5, -⟩ := s5.form; have B5 := Lib.hid (below_next B3.out b5); have E5 := Lib.hid (weqI (c1 := c3) (c2 := c5) (H3.out.gw b5) (show SB w5 A5 l3.length (numC l3) by have e : seI.s * l3.length = l3.length := Nat.one_mul _; rwa [e] at h5) (by have := HL3.out; omega)); clear b5 h5 s5 r5))
      | (go_at_call 14; go_loud (refine E5.out.mono ?_; rintro e w6 ⟨rfl, b6⟩; have B6 := Lib.hid (below_next B5.out b6); clear b6)))
    go_ret
    exact ⟨rfl, below_next HB.out.below B6.out⟩
  · have CR := Lib.hid (wlRightNo hB.h hR)
    unfold histV at CR ⊢
    clear h hB hR
    go_enter Tryz.func5, Tryz.ntmps5
    go_upto_region 1 with fail
    rw [HW.out]
    go_wp2_with (first
      | (go_at_call 8; go_loud (refine CR.out.mono ?_; rintro e w1 ⟨rfl, b1⟩; have B1 := Lib.hid b1; clear b1))
      | (go_at_call 9; go_loud (refine (CL.out _).mono ?_; rintro e w2 ⟨rfl, b2⟩; have B2 := Lib.hid (below_next B1.out b2); clear b2)))
    go_ret
    exact ⟨rfl, below_next HB.out.below B2.out⟩
end
/-- The given statement's call, for any history as it comes in. -/
theorem walk_SerialRounds (A : Option Addr) (n c : Nat) (B : Option Addr) (m d : Nat) (cs : List Int) (ac : List Ac) (w : World) (_ : True) (h : Hist w A n c B m d cs ac) :
    Calls Tryz.prog 5 #[.agg #[.slice A n c, .slice B m d]] w fun e w' => e = .returned (.bool true) ∧ Below w.heap.size w w' := walkRounds h
end Go.Proofs.YtbmgeobmmpaghaaGreatDoor
