/- Layer 11: a graph over ranks: ways, the steps to an aim as they are counted, the shortest round, the first order. -/
import Derived.Test.YtnpeankmmojebaaGreatDoorJAF
set_option linter.unusedVariables false
namespace Go.Proofs.YtnpeankmmojebaaGreatDoor
set_option maxRecDepth 100000
set_option maxRecDepth 100000

abbrev Eg := List (Nat × Nat)
/-- A way of so many edges. -/
inductive Way (E : Eg) : Nat → Nat → Nat → Prop
  | one {a b : Nat} : (a, b) ∈ E → Way E 1 a b
  | cons {k a b c : Nat} : (a, b) ∈ E → Way E k b c → Way E (k + 1) a c
def insP (E : Eg) (j : Nat) : List Nat := (E.filter fun e => decide (e.2 = j)).map (·.1)
def outsP (E : Eg) (i : Nat) : List Nat := (E.filter fun e => decide (e.1 = i)).map (·.2)
theorem mem_ins {E : Eg} {u j : Nat} : u ∈ insP E j ↔ (u, j) ∈ E := by
  unfold insP
  simp only [List.mem_map, List.mem_filter, decide_eq_true_eq]
  constructor
  · rintro ⟨⟨a, b⟩, ⟨h, rfl⟩, rfl⟩; exact h
  · intro h; exact ⟨(u, j), ⟨h, rfl⟩, rfl⟩
theorem mem_outs {E : Eg} {u i : Nat} : u ∈ outsP E i ↔ (i, u) ∈ E := by
  unfold outsP
  simp only [List.mem_map, List.mem_filter, decide_eq_true_eq]
  constructor
  · rintro ⟨⟨a, b⟩, ⟨h, rfl⟩, rfl⟩; exact h
  · intro h; exact ⟨(i, u), ⟨h, rfl⟩, rfl⟩
theorem Way.pos {E : Eg} {k a b : Nat} (h : Way E k a b) : 0 < k := by cases h <;> omega
theorem Way.trans {E : Eg} {k j a b c : Nat} (h : Way E k a b) (h2 : Way E j b c) : Way E (k + j) a c := by
  induction h with
  | one e => rw [Nat.add_comm]; exact .cons e h2
  | cons e _ ih => rw [show ∀ q, q + 1 + j = q + j + 1 by intro q; omega]; exact .cons e (ih h2)
/-- The edges lie within n ranks, none leads to where it begins. -/
structure EdOk (E : Eg) (n : Nat) : Prop where
  lt : ∀ e ∈ E, e.1 < n ∧ e.2 < n
  ne : ∀ e ∈ E, e.1 ≠ e.2
/-- So many edges lead from v to a at the least. -/
def DistIs (E : Eg) (j v a : Nat) : Prop := Way E j v a ∧ ∀ i, Way E i v a → j ≤ i

def gN (st : List Nat) (v : Nat) : Nat := st.getD v 0
theorem gN_set {st : List Nat} {v x u : Nat} (hv : v < st.length) : gN (st.set v x) u = if u = v then x else gN st u := by
  unfold gN
  rw [List.getD_eq_getElem?_getD, List.getD_eq_getElem?_getD, List.getElem?_set]
  by_cases h : u = v
  · subst h; simp [hv]
  · rw [if_neg (Ne.symm h), if_neg h]
theorem gN_at {st : List Nat} {v x : Nat} (h : st[v]? = some x) : gN st v = x := by unfold gN; rw [List.getD_eq_getElem?_getD, h]; rfl
/-- One of those from which a dependency leads to 'at'. -/
def bfsI (at_ : Nat) (s : List Nat × List Nat) (u : Nat) : List Nat × List Nat := if gN s.1 u = 0 then (s.1.set u (gN s.1 at_ + 1), s.2 ++ [u]) else s
theorem bfsI_next {at_ : Nat} {s : List Nat × List Nat} {us : List Nat} {j u : Nat} (h : us[j]? = some u) : (us.take (j + 1)).foldl (bfsI at_) s = bfsI at_ ((us.take j).foldl (bfsI at_) s) u := by
  rw [List.take_add_one, h, Option.toList_some, List.foldl_append]
  rfl
theorem bfsI_fold (at_ : Nat) : ∀ (us : List Nat) (st q : List Nat), at_ ∉ us → (∀ u ∈ us, u < st.length) →
    ∃ st' new, us.foldl (bfsI at_) (st, q) = (st', q ++ new) ∧ st'.length = st.length ∧ new.Nodup ∧ (∀ v, v ∈ new ↔ v ∈ us ∧ gN st v = 0) ∧ ∀ v, gN st' v = if v ∈ us ∧ gN st v = 0 then gN st at_ + 1 else gN st v
  | [], st, q, _, _ => ⟨st, [], by simp, rfl, List.nodup_nil, by simp, by simp⟩
  | u :: us, st, q, h1, h2 => by
    have hu := h2 u (List.mem_cons_self ..)
    have hne : at_ ≠ u := fun e => h1 (by rw [e]; exact List.mem_cons_self ..)
    by_cases h0 : gN st u = 0
    · have hs : ∀ v, gN (st.set u (gN st at_ + 1)) v = if v = u then gN st at_ + 1 else gN st v := fun v => gN_set hu
      obtain ⟨st', new, e1, e2, e3, e4, e5⟩ := bfsI_fold at_ us (st.set u (gN st at_ + 1)) (q ++ [u]) (fun h => h1 (List.mem_cons_of_mem _ h)) (fun v hv => by rw [List.length_set]; exact h2 v (List.mem_cons_of_mem _ hv))
      refine ⟨st', u :: new, ?_, by rw [e2, List.length_set], List.nodup_cons.2 ⟨fun hm => ?_, e3⟩, fun v => ?_, fun v => ?_⟩
      · rw [List.foldl_cons]
        unfold bfsI at e1 ⊢
        rw [if_pos h0, e1, List.append_assoc]
        rfl
      · have := ((e4 u).1 hm).2
        rw [hs, if_pos rfl] at this; omega
      · rw [List.mem_cons, e4, hs, List.mem_cons]
        constructor
        · rintro (rfl | ⟨h, k⟩)
          · exact ⟨.inl rfl, h0⟩
          · split at k
            · omega
            · exact ⟨.inr h, k⟩
        · rintro ⟨rfl | h, k⟩
          · exact .inl rfl
          · by_cases e : v = u
            · exact .inl e
            · exact .inr ⟨h, by rw [if_neg e]; exact k⟩
      · rw [e5, hs, hs, if_neg hne]
        by_cases e : v = u
        · subst e
          rw [if_pos rfl, if_neg (fun h => by have := h.2; omega), if_pos ⟨List.mem_cons_self .., h0⟩]
        · rw [if_neg e]
          have : (v ∈ us ∧ gN st v = 0) ↔ (v ∈ u :: us ∧ gN st v = 0) := by rw [List.mem_cons]; simp [e]
          simp only [this]
    · obtain ⟨st', new, e1, e2, e3, e4, e5⟩ := bfsI_fold at_ us st q (fun h => h1 (List.mem_cons_of_mem _ h)) (fun v hv => h2 v (List.mem_cons_of_mem _ hv))
      have hz : ∀ v, (v ∈ us ∧ gN st v = 0) ↔ (v ∈ u :: us ∧ gN st v = 0) := fun v => by
        rw [List.mem_cons]
        constructor
        · rintro ⟨h, k⟩; exact ⟨.inr h, k⟩
        · rintro ⟨rfl | h, k⟩
          · exact absurd k h0
          · exact ⟨h, k⟩
      refine ⟨st', new, ?_, e2, e3, fun v => (e4 v).trans (hz v), fun v => ?_⟩
      · rw [List.foldl_cons]
        unfold bfsI at e1 ⊢
        rw [if_neg h0, e1]
      · rw [e5]; simp only [hz]
def lvP (aim : Nat) (st : List Nat) (v : Nat) : Nat := if v = aim then 0 else gN st v
/-- The search on its way: those found, in order, of which the first p are gone through. -/
structure Bf (E : Eg) (n aim : Nat) (st all : List Nat) (p : Nat) : Prop where
  len : st.length = n
  nd : all.Nodup
  lt : ∀ v ∈ all, v < n
  hd : all[0]? = some aim
  pl : p ≤ all.length
  mem : ∀ v, v < n → v ≠ aim → (v ∈ all ↔ 0 < gN st v)
  mono : all.Pairwise (lvP aim st · ≤ lvP aim st ·)
  near : ∀ v ∈ all, ∀ u, all[p]? = some u → lvP aim st v ≤ lvP aim st u + 1
  way : ∀ v ∈ all, v ≠ aim → Way E (gN st v) v aim
  done : ∀ i x, i < p → all[i]? = some x → ∀ u ∈ insP E x, 0 < gN st u ∧ gN st u ≤ lvP aim st x + 1
  zero : gN st aim = 0
theorem gN_rep (n v : Nat) : gN (List.replicate n 0) v = 0 := by
  unfold gN
  rw [List.getD_eq_getElem?_getD, List.getElem?_replicate]
  split <;> rfl
theorem Bf.start {E : Eg} {n aim : Nat} (h : aim < n) : Bf E n aim (List.replicate n 0) [aim] 0 where
  len := List.length_replicate ..
  nd := by simp
  lt v hv := by rw [List.mem_singleton.1 hv]; exact h
  hd := rfl
  pl := Nat.zero_le _
  mem v hv hne := by simp [gN_rep, hne]
  mono := by simp
  near v hv u hu := by rw [List.mem_singleton.1 hv]; unfold lvP; simp
  way v hv hne := absurd (List.mem_singleton.1 hv) hne
  done i x hi := absurd hi (Nat.not_lt_zero _)
  zero := gN_rep _ _
section
variable {E : Eg} {n aim : Nat} {st all : List Nat} {p : Nat}
/-- Whatever is nearer than the one at which the search stands is found, and counted right. -/
theorem Bf.level (hE : EdOk E n) (h : Bf E n aim st all p) {j v : Nat} (hw : Way E j v aim) (hj : ∀ u, all[p]? = some u → j ≤ lvP aim st u) : 0 < gN st v ∧ gN st v ≤ j := by
  obtain ⟨c, hc⟩ : ∃ c, c = aim := ⟨_, rfl⟩
  rw [← hc] at hw
  induction hw with
  | @one a b he =>
    subst hc
    have hp : 0 < p := by
      rcases Nat.eq_zero_or_pos p with h0 | h0
      · subst h0
        have := hj b h.hd
        unfold lvP at this
        rw [if_pos rfl] at this; omega
      · exact h0
    have := h.done 0 b hp h.hd a (mem_ins.2 he)
    unfold lvP at this
    rw [if_pos rfl] at this
    exact this
  | @cons k a b c he hw ih =>
    have ih' := ih (fun u hu => Nat.le_of_succ_le (hj u hu)) hc
    have hba : b ≠ aim := fun e => by rw [e, h.zero] at ih'; omega
    have hbn : b < n := (hE.lt _ he).2
    have hb := (h.mem b hbn hba).2 ih'.1
    obtain ⟨i, hi⟩ := List.mem_iff_getElem?.1 hb
    have hlb : lvP aim st b = gN st b := by unfold lvP; rw [if_neg hba]
    have hip : i < p := by
      rcases Nat.lt_or_ge i p with h1 | h1
      · exact h1
      · have hil := (List.getElem?_eq_some_iff.1 hi).1
        obtain ⟨u, hu⟩ : ∃ u, all[p]? = some u := ⟨_, List.getElem?_eq_getElem (by omega)⟩
        have h2 := hj u hu
        have h3 : lvP aim st u ≤ lvP aim st b := by
          rcases Nat.lt_or_ge p i with h4 | h4
          · have := List.pairwise_iff_getElem.1 h.mono p i (by omega) hil h4
            rw [List.getElem?_eq_getElem (by omega)] at hu
            rw [List.getElem?_eq_getElem hil] at hi
            rw [Option.some.inj hu, Option.some.inj hi] at this
            exact this
          · have : i = p := by omega
            rw [this, hu] at hi
            rw [Option.some.inj hi]; exact Nat.le_refl _
        omega
    have := h.done i b hip hi a (mem_ins.2 he)
    omega
/-- What counting the steps to an aim leaves. -/
structure StepsIs (E : Eg) (n aim : Nat) (st : List Nat) : Prop where
  len : st.length = n
  none : gN st aim = 0 → ∀ k, ¬ Way E k aim aim
  some : 0 < gN st aim → DistIs E (gN st aim) aim aim ∧ ∀ j v, 0 < j → j < gN st aim → (gN st v = j ↔ DistIs E j v aim)
theorem Bf.over (hE : EdOk E n) (h : Bf E n aim st all p) (hp : all[p]? = none) : StepsIs E n aim st :=
  ⟨h.len, fun _ k hw => by
    have := h.level hE hw (fun u hu => by rw [hp] at hu; cases hu)
    rw [h.zero] at this; omega, fun h0 => by rw [h.zero] at h0; omega⟩
/-- One more gone through: the search goes on, or the aim is found. -/
theorem Bf.step (hE : EdOk E n) (h : Bf E n aim st all p) {x : Nat} (hx : all[p]? = some x) {st' new : List Nat} (e2 : st'.length = st.length) (e3 : new.Nodup) (e4 : ∀ v, v ∈ new ↔ v ∈ insP E x ∧ gN st v = 0)
    (e5 : ∀ v, gN st' v = if v ∈ insP E x ∧ gN st v = 0 then gN st x + 1 else gN st v) :
    (gN st' aim = 0 → Bf E n aim st' (all ++ new) (p + 1)) ∧ (0 < gN st' aim → StepsIs E n aim st') := by
  have hxa := List.mem_of_getElem? hx
  have hpl : p < all.length := (List.getElem?_eq_some_iff.1 hx).1
  have hlx : lvP aim st x = gN st x := by
    unfold lvP
    split
    · rename_i e; rw [e, h.zero]
    · rfl
  have hsame : ∀ v, 0 < gN st v → gN st' v = gN st v := fun v hv => by rw [e5, if_neg (fun k => by have := k.2; omega)]
  have hlv : ∀ v ∈ all, lvP aim st' v = lvP aim st v := fun v hv => by
    unfold lvP
    split
    · rfl
    · rename_i hne
      exact hsame v ((h.mem v (h.lt v hv) hne).1 hv)
  have hway : Way E (gN st x) x aim ∨ x = aim ∧ gN st x = 0 := by
    by_cases e : x = aim
    · exact .inr ⟨e, by rw [e]; exact h.zero⟩
    · exact .inl (h.way x hxa e)
  have hnew : ∀ v, v ∈ insP E x → gN st v = 0 → Way E (gN st x + 1) v aim := fun v hv _ => by
    rcases hway with k | ⟨k1, k2⟩
    · exact .cons (mem_ins.1 hv) k
    · rw [k2, ← k1]; exact .one (mem_ins.1 hv)
  constructor
  · intro hz
    have hxn : aim ∉ new := fun hm => by
      rw [e5, if_pos ((e4 aim).1 hm)] at hz; omega
    have hlvn : ∀ v ∈ new, lvP aim st' v = gN st x + 1 := fun v hv => by
      have hne : v ≠ aim := fun e => hxn (e ▸ hv)
      unfold lvP
      rw [if_neg hne, e5, if_pos ((e4 v).1 hv)]
    refine ⟨e2.trans h.len, List.nodup_append.2 ⟨h.nd, e3, fun a ha b hb e => ?_⟩, fun v hv => ?_, ?_, ?_, fun v hv hne => ?_, List.pairwise_append.2 ⟨?_, ?_, fun a ha b hb => ?_⟩, fun v hv u hu => ?_, fun v hv hne => ?_, fun i y hi hy u hu => ?_, hz⟩
    · subst e
      have hne : a ≠ aim := fun e => hxn (e ▸ hb)
      have := (h.mem a (h.lt a ha) hne).1 ha
      have := ((e4 a).1 hb).2
      omega
    · rcases List.mem_append.1 hv with k | k
      · exact h.lt v k
      · exact (hE.lt _ (mem_ins.1 ((e4 v).1 k).1)).1
    · rw [List.getElem?_append_left (by omega)]; exact h.hd
    · rw [List.length_append]; omega
    · rw [List.mem_append, h.mem v hv hne, e5]
      constructor
      · rintro (k | k)
        · rw [if_neg (fun m => by have := m.2; omega)]; exact k
        · rw [if_pos ((e4 v).1 k)]; omega
      · intro k
        by_cases m : v ∈ insP E x ∧ gN st v = 0
        · exact .inr ((e4 v).2 m)
        · rw [if_neg m] at k; exact .inl k
    · refine h.mono.imp_of_mem fun ha hb k => ?_
      rw [hlv _ ha, hlv _ hb]; exact k
    · rw [List.pairwise_iff_getElem]
      intro i j hi hj _
      rw [hlvn _ (List.getElem_mem hi), hlvn _ (List.getElem_mem hj)]; exact Nat.le_refl _
    · rw [hlv a ha, hlvn b hb, ← hlx]
      exact h.near a ha x hx
    · have hu' : gN st x ≤ lvP aim st' u := by
        rcases List.mem_append.1 (List.mem_of_getElem? hu) with k | k
        · rw [hlv u k, ← hlx]
          rw [List.getElem?_append] at hu
          split at hu
          · rename_i hlt
            have := List.pairwise_iff_getElem.1 h.mono p (p + 1) hpl hlt (by omega)
            rw [List.getElem?_eq_getElem hpl] at hx
            rw [List.getElem?_eq_getElem hlt] at hu
            rw [Option.some.inj hx, Option.some.inj hu] at this
            exact this
          · have hne : u ≠ aim := fun e => hxn (e ▸ List.mem_of_getElem? hu)
            have h1 := (h.mem u (h.lt u k) hne).1 k
            have h2 := ((e4 u).1 (List.mem_of_getElem? hu)).2
            omega
        · rw [hlvn u k]; omega
      have hv' : lvP aim st' v ≤ gN st x + 1 := by
        rcases List.mem_append.1 hv with k | k
        · rw [hlv v k, ← hlx]; exact h.near v k x hx
        · rw [hlvn v k]; exact Nat.le_refl _
      omega
    · rcases List.mem_append.1 hv with k | k
      · rw [hsame v ((h.mem v (h.lt v k) hne).1 k)]; exact h.way v k hne
      · have := (e4 v).1 k
        rw [e5, if_pos this]
        exact hnew v this.1 this.2
    · have hya : y ∈ all ∧ (i < p → all[i]? = some y) ∧ (i = p → y = x) := by
        rw [List.getElem?_append_left (by omega)] at hy
        refine ⟨List.mem_of_getElem? hy, fun _ => hy, fun e => ?_⟩
        rw [e, hx] at hy; exact (Option.some.inj hy).symm
      rcases Nat.lt_or_ge i p with k | k
      · have h1 := h.done i y k (hya.2.1 k) u hu
        rw [hsame u h1.1, hlv y hya.1]; exact h1
      · have hxy := hya.2.2 (by omega)
        subst hxy
        rw [hlv y hya.1, hlx, e5]
        by_cases m : u ∈ insP E y ∧ gN st u = 0
        · rw [if_pos m]; omega
        · rw [if_neg m]
          have h0 : 0 < gN st u := by
            rcases Nat.eq_zero_or_pos (gN st u) with k2 | k2
            · exact absurd ⟨hu, k2⟩ m
            · exact k2
          have hne : u ≠ aim := fun e => by rw [e, h.zero] at h0; omega
          have hua := (h.mem u (hE.lt _ (mem_ins.1 hu)).1 hne).2 h0
          have h1 := h.near u hua y hx
          unfold lvP at h1
          rw [if_neg hne] at h1
          rw [show (if y = aim then 0 else gN st y) = lvP aim st y from rfl, hlx] at h1
          exact ⟨h0, h1⟩
  · intro hz
    have hm : aim ∈ insP E x ∧ gN st aim = 0 := by
      by_cases m : aim ∈ insP E x ∧ gN st aim = 0
      · exact m
      · rw [e5, if_neg m, h.zero] at hz; omega
    have hk : gN st' aim = gN st x + 1 := by rw [e5, if_pos hm]
    have hlow : ∀ i v, Way E i v aim → i ≤ gN st x → 0 < gN st v ∧ gN st v ≤ i := fun i v hw hi => h.level hE hw fun u hu => by
      rw [hx] at hu
      rw [← Option.some.inj hu, hlx]; exact hi
    refine ⟨e2.trans h.len, fun k => by omega, fun _ => ⟨⟨?_, fun i hw => ?_⟩, fun j v h0 hj => ?_⟩⟩
    · rw [hk]; exact hnew aim hm.1 hm.2
    · rw [hk]
      rcases Nat.lt_or_ge (gN st x) i with k | k
      · exact k
      · have := hlow i aim hw k
        rw [h.zero] at this; omega
    · rw [hk] at hj
      constructor
      · intro hv
        have hv' : gN st v = j := by
          by_cases m : v ∈ insP E x ∧ gN st v = 0
          · rw [e5, if_pos m] at hv; omega
          · rw [e5, if_neg m] at hv; exact hv
        have hne : v ≠ aim := fun e => by rw [e, h.zero] at hv'; omega
        have hvl : v < n := by
          rcases Nat.lt_or_ge v n with k | k
          · exact k
          · unfold gN at hv'
            rw [List.getD_eq_getElem?_getD, List.getElem?_eq_none (by rw [h.len]; exact k)] at hv'
            simp at hv'; omega
        have hva := (h.mem v hvl hne).2 (by omega)
        refine ⟨by rw [← hv']; exact h.way v hva hne, fun i hw => ?_⟩
        rcases Nat.lt_or_ge i j with k | k
        · have := hlow i v hw (by omega); omega
        · exact k
      · rintro ⟨hw, hmin⟩
        have h1 := hlow j v hw (by omega)
        have hne : v ≠ aim := fun e => by rw [e, h.zero] at h1; omega
        have hvl : v < n := by
          cases hw with
          | one he => exact (hE.lt _ he).1
          | cons he _ => exact (hE.lt _ he).1
        have hva := (h.mem v hvl hne).2 h1.1
        have h2 := hmin _ (h.way v hva hne)
        rw [hsame v h1.1]; omega
end
/-- The shortest round, the first one of these. -/
def RoundIs (E : Eg) (n : Nat) (l : List Nat) : Prop :=
  (l = [] ∧ ∀ r k, r < n → ¬ Way E k r r) ∨ ∃ f k, f < n ∧ Way E k f f ∧ (∀ r j, r < n → Way E j r r → k ≤ j) ∧ (∀ r, r < f → ¬ Way E k r r) ∧ l.length = k ∧ l[0]? = some f ∧
    ∀ i x y, i + 1 < k → l[i]? = some x → l[i + 1]? = some y → ((x, y) ∈ E ∧ DistIs E (k - (i + 1)) y f) ∧ ∀ z, (x, z) ∈ E → DistIs E (k - (i + 1)) z f → y ≤ z
theorem RoundIs.unique {E : Eg} {n : Nat} {l m : List Nat} (hl : RoundIs E n l) (hm : RoundIs E n m) : l = m := by
  rcases hl with ⟨rfl, h1⟩ | ⟨f, k, a1, a2, a3, a4, a5, a6, a7⟩
  · rcases hm with ⟨rfl, -⟩ | ⟨f, k, b1, b2, -⟩
    · rfl
    · exact absurd b2 (h1 f k b1)
  · rcases hm with ⟨rfl, h1⟩ | ⟨f', k', b1, b2, b3, b4, b5, b6, b7⟩
    · exact absurd a2 (h1 f k a1)
    · have hk : k = k' := Nat.le_antisymm (a3 _ _ b1 b2) (b3 _ _ a1 a2)
      subst hk
      have hf : f = f' := by
        rcases Nat.lt_trichotomy f f' with h | h | h
        · exact absurd a2 (b4 f h)
        · exact h
        · exact absurd b2 (a4 f' h)
      subst hf
      have key : ∀ i, i < k → l[i]? = m[i]? := by
        intro i
        induction i with
        | zero => intro _; rw [a6, b6]
        | succ i ih =>
          intro hi
          have e := ih (by omega)
          obtain ⟨x, hx⟩ : ∃ x, l[i]? = some x := ⟨_, List.getElem?_eq_getElem (by omega)⟩
          obtain ⟨y, hy⟩ : ∃ y, l[i + 1]? = some y := ⟨_, List.getElem?_eq_getElem (by omega)⟩
          obtain ⟨z, hz⟩ : ∃ z, m[i + 1]? = some z := ⟨_, List.getElem?_eq_getElem (by omega)⟩
          obtain ⟨c1, c2⟩ := a7 i x y hi hx hy
          obtain ⟨d1, d2⟩ := b7 i x z hi (e ▸ hx) hz
          have := c2 z d1.1 d1.2
          have := d2 y c1.1 c1.2
          rw [hy, hz, show y = z by omega]
      apply List.ext_getElem?
      intro i
      rcases Nat.lt_or_ge i k with h | h
      · exact key i h
      · rw [List.getElem?_eq_none (by omega), List.getElem?_eq_none (by omega)]
/-- From where the round is there is a next one. -/
theorem dist_next {E : Eg} {j x f : Nat} (h : DistIs E (j + 1) x f) (hj : 0 < j) : ∃ y, (x, y) ∈ E ∧ DistIs E j y f := by
  obtain ⟨hw, hmin⟩ := h
  cases hw with
  | one he => omega
  | cons he hw => exact ⟨_, he, hw, fun i hi => by have := hmin _ (.cons he hi); omega⟩
end Go.Proofs.YtnpeankmmojebaaGreatDoor
