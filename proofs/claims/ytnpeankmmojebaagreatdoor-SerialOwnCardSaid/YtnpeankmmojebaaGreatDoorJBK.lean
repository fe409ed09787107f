import Derived.Test.YtnpeankmmojebaaGreatDoorJAF
import Derived.Test.YtnpeankmmojebaaGreatDoorJBJ
import Derived.Test.YtnpeankmmojebaaGreatDoorJBI
/- Layer 11: an order of all in which each dependency leads forward, replayed; snapshots: Fekete and others. -/
set_option linter.unusedVariables false
namespace Go.Proofs.YtnpeankmmojebaaGreatDoor
set_option maxRecDepth 100000
set_option maxRecDepth 100000

/-- Each dependency of the history leads forward in an order of all. -/
structure Fwd (cs : List Int) (ac : List Ac) (l : List Int) : Prop where
  nd : l.Nodup
  mem : ∀ x, x ∈ l ↔ x ∈ cs
  fwd : ∀ d ∈ graphP cs ac, l.idxOf d.fr < l.idxOf d.to
section
variable {cs : List Int} {ac : List Ac} {l : List Int}
/-- The next version's transaction. -/
theorem nextP_is {it : ByteArray} {v y : Int} (hR : Right cs ac) (hv : v = 0 ∨ v ∈ cs) (hy : y ∈ cs) (hw : writesP ac y it = true) (hlt : v ≠ 0 → cs.idxOf v < cs.idxOf y) :
    nextP cs ac it v ∈ cs ∧ writesP ac (nextP cs ac it v) it = true ∧ (v ≠ 0 → cs.idxOf v < cs.idxOf (nextP cs ac it v)) ∧ cs.idxOf (nextP cs ac it v) ≤ cs.idxOf y := by
  obtain ⟨k, hk⟩ : ∃ k, (if v = 0 then 0 else (plcP cs v + 1).toNat) = k := ⟨_, rfl⟩
  have hky : k ≤ cs.idxOf y := by
    rw [← hk]
    split
    · exact Nat.zero_le _
    · rename_i h0
      have := hlt h0
      unfold plcP
      rw [if_pos (hv.resolve_left h0)]
      omega
  have hkv : v ≠ 0 → cs.idxOf v < k := fun h0 => by
    rw [← hk, if_neg h0]
    unfold plcP
    rw [if_pos (hv.resolve_left h0)]
    omega
  have hyl := List.idxOf_lt_length_of_mem hy
  have hy2 : y ∈ cs.drop k := by
    refine List.mem_of_getElem? (i := cs.idxOf y - k) ?_
    rw [List.getElem?_drop, show k + (cs.idxOf y - k) = cs.idxOf y by omega]
    exact plcP_at hy
  unfold nextP
  rw [hk]
  cases hf : (cs.drop k).find? fun n => writesP ac n it with
  | none => exact absurd hw (by simpa using List.find?_eq_none.1 hf y hy2)
  | some z =>
    rw [Option.getD_some]
    have hz := List.find?_some hf
    obtain ⟨i, hi, he, hmin⟩ := List.find?_eq_some_iff_getElem.1 hf |>.2
    have hzc : cs[k + i]? = some z := by rw [← List.getElem?_drop, List.getElem?_eq_getElem hi, he]
    have hzi := idx_of hR.nd hzc
    refine ⟨List.mem_of_getElem? hzc, hz, fun h0 => by have := hkv h0; omega, ?_⟩
    rw [hzi]
    refine Nat.le_of_not_lt fun hlt2 => ?_
    have h3 := hmin (cs.idxOf y - k) (by omega)
    have h4 : (cs.drop k)[cs.idxOf y - k]? = some y := by rw [List.getElem?_drop, show k + (cs.idxOf y - k) = cs.idxOf y by omega]; exact plcP_at hy
    rw [(List.getElem?_eq_some_iff.1 h4).2] at h3
    rw [hw] at h3; cases h3
theorem Fwd.dep (h : Fwd cs ac l) {a : Ac} (ha : a ∈ ac) {d : Dp} (hd : d ∈ depsA cs ac a) (hok : okD d) : l.idxOf d.fr < l.idxOf d.to := h.fwd d (((graph_is cs ac).2 d).2 ⟨⟨a, ha, hd⟩, hok⟩)
/-- Of two that write an item, the one that commits first stands first. -/
theorem Fwd.writers (h : Fwd cs ac l) (hR : Right cs ac) {it : ByteArray} : ∀ (q : Nat) (x y : Int), x ∈ cs → y ∈ cs → writesP ac x it = true → writesP ac y it = true → cs.idxOf x < cs.idxOf y → cs.idxOf y - cs.idxOf x ≤ q → l.idxOf x < l.idxOf y
  | 0, x, y, _, _, _, _, h1, h2 => by omega
  | q + 1, x, y, hx, hy, wx, wy, h1, h2 => by
    obtain ⟨z1, z2, z3, z4⟩ := nextP_is hR (it := it) (v := x) (.inr hx) hy wy (fun _ => h1)
    obtain ⟨a, ha, a1, a2, a3⟩ := writesP_is.1 wx
    have x0 : x ≠ 0 := by have := hR.pos x hx; omega
    have hne : x ≠ nextP cs ac it x := fun e => by have := z3 x0; rw [← e] at this; omega
    have h3 := h.dep ha (d := ⟨x, nextP cs ac it x, 2⟩) (by unfold depsA; rw [if_pos a1, a2, a3]; exact List.mem_singleton.2 rfl) ⟨x0, by have := hR.pos _ z1; show nextP cs ac it x ≠ 0; omega, hne⟩
    by_cases e : nextP cs ac it x = y
    · rw [e] at h3; exact h3
    · have h4 : cs.idxOf (nextP cs ac it x) < cs.idxOf y := by
        refine Nat.lt_of_le_of_ne z4 fun e2 => e ?_
        have := plcP_at z1
        rw [e2, plcP_at hy] at this
        exact (Option.some.inj this).symm
      have := Fwd.writers h hR q _ y z1 hy z2 wy h4 (by have := z3 x0; omega)
      exact Nat.lt_trans h3 this
/-- What stands ahead of a reader and writes the item stands not behind what was read. -/
theorem Fwd.reads (h : Fwd cs ac l) (hR : Right cs ac) {a : Ac} (ha : a ∈ ac) (hw : a.wr = false) (hne : a.ver ≠ a.txn) {x : Int} (hx : x ∈ cs) (wx : writesP ac x a.item = true) (hlt : l.idxOf x < l.idxOf a.txn) :
    a.ver ≠ 0 ∧ (x = a.ver ∨ l.idxOf x < l.idxOf a.ver) := by
  have ht := hR.txn a ha
  have t0 : a.txn ≠ 0 := by have := hR.pos _ ht; omega
  have hv : a.ver = 0 ∨ a.ver ∈ cs := (hR.rd a ha hw).imp id (·.1)
  have key : (a.ver ≠ 0 → cs.idxOf a.ver < cs.idxOf x) → False := fun hlx => by
    obtain ⟨z1, z2, z3, z4⟩ := nextP_is hR (it := a.item) hv hx wx hlx
    have z0 : nextP cs ac a.item a.ver ≠ 0 := by have := hR.pos _ z1; omega
    by_cases e : a.txn = nextP cs ac a.item a.ver
    · rw [← e] at z1 z2 z4
      have h4 : cs.idxOf a.txn < cs.idxOf x := by
        refine Nat.lt_of_le_of_ne z4 fun e2 => ?_
        have := plcP_at z1
        rw [e2, plcP_at hx] at this
        rw [Option.some.inj this] at hlt
        omega
      have := h.writers hR _ a.txn x z1 hx z2 wx h4 (Nat.le_refl _)
      omega
    · have h3 := h.dep ha (d := ⟨a.txn, nextP cs ac a.item a.ver, 3⟩) (by unfold depsA; rw [if_neg (by simp [hw]), if_neg hne]; exact List.mem_cons_of_mem _ (List.mem_singleton.2 rfl)) ⟨t0, z0, e⟩
      dsimp only at h3
      by_cases e2 : nextP cs ac a.item a.ver = x
      · rw [e2] at h3; omega
      · have h4 : cs.idxOf (nextP cs ac a.item a.ver) < cs.idxOf x := by
          refine Nat.lt_of_le_of_ne z4 fun e3 => e2 ?_
          have := plcP_at z1
          rw [e3, plcP_at hx] at this
          exact (Option.some.inj this).symm
        have := h.writers hR _ _ x z1 hx z2 wx h4 (Nat.le_refl _)
        omega
  have v0 : a.ver ≠ 0 := fun e => key fun k => absurd e k
  refine ⟨v0, ?_⟩
  have hvc := hv.resolve_left v0
  have wv : writesP ac a.ver a.item = true := ((hR.rd a ha hw).resolve_left v0).2
  by_cases e : x = a.ver
  · exact .inl e
  · refine .inr ?_
    have h5 : cs.idxOf x < cs.idxOf a.ver := by
      rcases Nat.lt_trichotomy (cs.idxOf x) (cs.idxOf a.ver) with k | k | k
      · exact k
      · exfalso; apply e
        have := plcP_at hx
        rw [k, plcP_at hvc] at this
        exact (Option.some.inj this).symm
      · exact (key fun _ => k).elim
    exact h.writers hR _ x a.ver hx hvc wx wv h5 (Nat.le_refl _)
/-- The last one ahead of one that writes an item. -/
def lastP (ac : List Ac) (t : Int) (it : ByteArray) : List Int → Int → Int
  | [], v => v
  | x :: l, v => if x = t then v else lastP ac t it l (if writesP ac x it then x else v)
theorem lastP_is {ac : List Ac} {t : Int} {it : ByteArray} : ∀ (l : List Int) (v : Int), ∃ p r, l = p ++ r ∧ (∀ x ∈ p, x ≠ t) ∧ (r = [] ∨ r.head? = some t) ∧ ((lastP ac t it l v = v ∧ ∀ x ∈ p, writesP ac x it = false) ∨ ∃ p1 p2, p = p1 ++ lastP ac t it l v :: p2 ∧ writesP ac (lastP ac t it l v) it = true ∧ ∀ x ∈ p2, writesP ac x it = false)
  | [], v => ⟨[], [], rfl, by simp, .inl rfl, .inl ⟨rfl, by simp⟩⟩
  | x :: l, v => by
    unfold lastP
    by_cases e : x = t
    · rw [if_pos e]
      exact ⟨[], x :: l, rfl, by simp, .inr (by simp [e]), .inl ⟨rfl, by simp⟩⟩
    · rw [if_neg e]
      obtain ⟨p, r, h1, h2, h3, h4⟩ := lastP_is (ac := ac) (t := t) (it := it) l (if writesP ac x it then x else v)
      refine ⟨x :: p, r, by rw [h1]; rfl, fun y hy => (List.mem_cons.1 hy).elim (fun k => k ▸ e) (h2 y), h3, ?_⟩
      rcases h4 with ⟨h5, h6⟩ | ⟨p1, p2, h5, h6, h7⟩
      · cases hwx : writesP ac x it with
        | true =>
          rw [hwx, if_pos rfl] at h5
          refine .inr ⟨[], p, ?_, ?_, h6⟩
          · rw [if_pos rfl, h5]; rfl
          · rw [if_pos rfl, h5]; exact hwx
        | false =>
          rw [hwx, if_neg (by simp)] at h5
          refine .inl ⟨by rw [if_neg (by simp)]; exact h5, fun y hy => (List.mem_cons.1 hy).elim (fun k => k ▸ hwx) (h6 y)⟩
      · exact .inr ⟨x :: p1, p2, by rw [List.cons_append, ← h5], h6, h7⟩
/-- In an order of all, each read finds what it saw. -/
theorem Fwd.replay (h : Fwd cs ac l) (hR : Right cs ac) {a : Ac} (ha : a ∈ ac) (hw : a.wr = false) (hne : a.ver ≠ a.txn) : lastP ac a.txn a.item l 0 = a.ver := by
  obtain ⟨p, r, h1, h2, h3, h4⟩ := lastP_is (ac := ac) (t := a.txn) (it := a.item) l 0
  have ht : a.txn ∈ l := (h.mem _).2 (hR.txn a ha)
  have hr : ∃ r2, r = a.txn :: r2 := by
    rcases h3 with h3 | h3
    · rw [h3, List.append_nil] at h1
      rw [h1] at ht
      exact absurd rfl (h2 _ ht)
    · cases r with
      | nil => cases h3
      | cons b r2 => exact ⟨r2, by simpa using h3⟩
  obtain ⟨r2, hr⟩ := hr
  have hit : l.idxOf a.txn = p.length := idx_of h.nd (by rw [h1, hr]; simp)
  have hpi : ∀ (i : Nat) x, p[i]? = some x → l.idxOf x = i ∧ i < p.length := fun i x hx => by
    have hi := (List.getElem?_eq_some_iff.1 hx).1
    exact ⟨idx_of h.nd (by rw [h1, List.getElem?_append_left hi]; exact hx), hi⟩
  have hmem : ∀ x ∈ p, x ∈ cs ∧ l.idxOf x < l.idxOf a.txn := fun x hx => by
    obtain ⟨i, hi⟩ := List.mem_iff_getElem?.1 hx
    have := hpi i x hi
    exact ⟨(h.mem x).1 (by rw [h1]; exact List.mem_append_left _ hx), by rw [hit, this.1]; exact this.2⟩
  have hpv : a.ver ≠ 0 → a.ver ∈ p := fun v0 => by
    have hvc := ((hR.rd a ha hw).resolve_left v0)
    have hd := h.dep ha (d := ⟨a.ver, a.txn, 1⟩) (by unfold depsA; rw [if_neg (by simp [hw]), if_neg hne]; exact List.mem_cons_self ..) ⟨v0, by have := hR.pos _ (hR.txn a ha); show a.txn ≠ 0; omega, hne⟩
    dsimp only at hd
    have hvl := plcP_at ((h.mem _).2 hvc.1)
    rw [hit] at hd
    refine List.mem_of_getElem? (i := l.idxOf a.ver) ?_
    rw [h1, List.getElem?_append_left (by rw [← h1]; exact hd)] at hvl
    rw [← h1] at hvl; exact hvl
  rcases h4 with ⟨h5, h6⟩ | ⟨p1, p2, h5, h6, h7⟩
  · rw [h5]
    by_cases v0 : a.ver = 0
    · exact v0.symm
    · have := h6 _ (hpv v0)
      rw [((hR.rd a ha hw).resolve_left v0).2] at this; cases this
  · generalize lastP ac a.txn a.item l 0 = y at h5 h6
    have hy : y ∈ p := by rw [h5]; simp
    obtain ⟨y1, y2⟩ := hmem y hy
    obtain ⟨v0, k⟩ := h.reads hR ha hw hne y1 h6 y2
    rcases k with k | k
    · exact k
    · exfalso
      have hvp := hpv v0
      have hyi := (hpi p1.length y (by rw [h5]; simp)).1
      obtain ⟨i, hi⟩ := List.mem_iff_getElem?.1 hvp
      have hvi := hpi i _ hi
      rw [hyi, hvi.1] at k
      have h8 : a.ver ∈ p2 := by
        rw [h5, List.getElem?_append_right (by omega)] at hi
        cases hq : i - p1.length with
        | zero => omega
        | succ q => rw [hq, List.getElem?_cons_succ] at hi; exact List.mem_of_getElem? hi
      have := h7 _ h8
      rw [((hR.rd a ha hw).resolve_left v0).2] at this; cases this
end
/-- The newest version of an item among so many commits; 0: none. -/
def newestP (ac : List Ac) (it : ByteArray) (l : List Int) : Int := l.foldl (fun v x => if writesP ac x it then x else v) 0
theorem newest_snoc (ac : List Ac) (it : ByteArray) (l : List Int) (x : Int) : newestP ac it (l ++ [x]) = if writesP ac x it then x else newestP ac it l := by
  unfold newestP
  rw [List.foldl_append]; rfl
theorem newest_is (ac : List Ac) (it : ByteArray) (cs : List Int) : ∀ f, f ≤ cs.length → (newestP ac it (cs.take f) = 0 ∧ ∀ k x, k < f → cs[k]? = some x → writesP ac x it = false) ∨ ∃ k x, k < f ∧ cs[k]? = some x ∧ newestP ac it (cs.take f) = x ∧ writesP ac x it = true ∧ ∀ j y, k < j → j < f → cs[j]? = some y → writesP ac y it = false
  | 0, _ => .inl ⟨rfl, fun k x h => absurd h (Nat.not_lt_zero _)⟩
  | f + 1, hf => by
    obtain ⟨z, hz⟩ : ∃ z, cs[f]? = some z := ⟨_, List.getElem?_eq_getElem (by omega)⟩
    rw [List.take_add_one, hz, Option.toList_some, newest_snoc]
    cases hw : writesP ac z it with
    | true => exact .inr ⟨f, z, Nat.lt_succ_self _, hz, rfl, hw, fun j y h1 h2 => by omega⟩
    | false =>
      rw [if_neg (by simp)]
      rcases newest_is ac it cs f (by omega) with ⟨h1, h2⟩ | ⟨k, x, h1, h2, h3, h4, h5⟩
      · refine .inl ⟨h1, fun k x hk hx => ?_⟩
        rcases Nat.lt_or_ge k f with q | q
        · exact h2 k x q hx
        · have : k = f := by omega
          rw [this, hz] at hx; cases hx; exact hw
      · refine .inr ⟨k, x, by omega, h2, h3, h4, fun j y hj hk hy => ?_⟩
        rcases Nat.lt_or_ge j f with q | q
        · exact h5 j y hj q hy
        · have : j = f := by omega
          rw [this, hz] at hy; cases hy; exact hw
/-- A transaction sees the snapshot of so many commits. -/
def SnapP (cs : List Int) (ac : List Ac) (t : Int) (f : Nat) : Prop :=
  ∀ a ∈ ac, a.txn = t → if a.wr then ∀ k x, f ≤ k → k < cs.idxOf t → cs[k]? = some x → writesP ac x a.item = false else a.ver = t ∨ a.ver = newestP ac a.item (cs.take f)
def SnapsP (cs : List Int) (ac : List Ac) : Prop := ∀ t ∈ cs, ∃ f, f ≤ cs.idxOf t ∧ SnapP cs ac t f
section
variable {cs : List Int} {ac : List Ac}
theorem at_idx {l : List Int} {x : Int} (h : x ∈ l) : l[l.idxOf x]? = some x := plcP_at h
theorem nextP_at {it : ByteArray} {v : Int} (hR : Right cs ac) (hv : v = 0 ∨ v ∈ cs) (h0 : nextP cs ac it v ≠ 0) :
    nextP cs ac it v ∈ cs ∧ writesP ac (nextP cs ac it v) it = true ∧ (v ≠ 0 → cs.idxOf v < cs.idxOf (nextP cs ac it v)) := by
  obtain ⟨k, hk⟩ : ∃ k, (if v = 0 then 0 else (plcP cs v + 1).toNat) = k := ⟨_, rfl⟩
  have hkv : v ≠ 0 → cs.idxOf v < k := fun h0 => by
    rw [← hk, if_neg h0]
    unfold plcP
    rw [if_pos (hv.resolve_left h0)]
    omega
  unfold nextP at h0 ⊢
  rw [hk] at h0 ⊢
  cases hf : (cs.drop k).find? fun n => writesP ac n it with
  | none => rw [hf] at h0; exact absurd rfl h0
  | some z =>
    rw [Option.getD_some]
    obtain ⟨i, hi, he, -⟩ := List.find?_eq_some_iff_getElem.1 hf |>.2
    have hzc : cs[k + i]? = some z := by rw [← List.getElem?_drop, List.getElem?_eq_getElem hi, he]
    have hzi := idx_of hR.nd hzc
    exact ⟨List.mem_of_getElem? hzc, by have := List.find?_some hf; simpa using this, fun h0 => by have := hkv h0; omega⟩
/-- What a dependency says of snapshots. -/
theorem snap_dep (hR : Right cs ac) {F : Int → Nat} (hF : ∀ t ∈ cs, F t ≤ cs.idxOf t ∧ SnapP cs ac t (F t)) {d : Dp} (hd : d ∈ graphP cs ac) :
    d.fr ∈ cs ∧ d.to ∈ cs ∧ ((d.kd = 3 ∧ F d.fr ≤ cs.idxOf d.to) ∨ (d.kd ≠ 3 ∧ cs.idxOf d.fr < F d.to)) := by
  obtain ⟨⟨a, ha, hda⟩, h1, h2, h3⟩ := ((graph_is cs ac).2 d).1 hd
  have ht := hR.txn a ha
  have hti := (List.idxOf_lt_length_of_mem ht)
  cases hw : a.wr with
  | true =>
    unfold depsA at hda
    rw [if_pos hw, List.mem_singleton] at hda
    subst hda
    dsimp only at h1 h2 h3 ⊢
    obtain ⟨z1, z2, z3⟩ := nextP_at hR (it := a.item) (v := a.txn) (.inr ht) h2
    refine ⟨ht, z1, .inr ⟨by omega, ?_⟩⟩
    obtain ⟨b, hb, b1, b2, b3⟩ := writesP_is.1 z2
    have hs := (hF _ z1).2 b hb b2
    rw [if_pos b1, b3] at hs
    refine Nat.lt_of_not_le fun hle => ?_
    have := hs (cs.idxOf a.txn) a.txn hle (z3 h1) (at_idx ht)
    rw [writesP_is.2 ⟨a, ha, hw, rfl, rfl⟩] at this; cases this
  | false =>
    unfold depsA at hda
    rw [if_neg (by simp [hw])] at hda
    by_cases hne : a.ver = a.txn
    · rw [if_pos hne] at hda; cases hda
    rw [if_neg hne] at hda
    have hs := (hF _ ht).2 a ha rfl
    rw [if_neg (by simp [hw])] at hs
    have hs := hs.resolve_left hne
    have hfl : F a.txn ≤ cs.length := Nat.le_trans (hF _ ht).1 (Nat.le_of_lt hti)
    rcases List.mem_cons.1 hda with e | e
    · subst e
      dsimp only at h1 h2 h3 ⊢
      have hvc := (hR.rd a ha hw).resolve_left h1
      refine ⟨hvc.1, ht, .inr ⟨by omega, ?_⟩⟩
      rcases newest_is ac a.item cs (F a.txn) hfl with ⟨k1, -⟩ | ⟨k, x, k1, k2, k3, -⟩
      · rw [← hs] at k1; exact absurd k1 h1
      · rw [← hs] at k3
        rw [idx_of hR.nd (k3 ▸ k2)]; exact k1
    · rw [List.mem_singleton] at e
      subst e
      dsimp only at h1 h2 h3 ⊢
      have hv : a.ver = 0 ∨ a.ver ∈ cs := (hR.rd a ha hw).imp id (·.1)
      obtain ⟨z1, z2, z3⟩ := nextP_at hR hv h2
      refine ⟨ht, z1, .inl ⟨rfl, ?_⟩⟩
      refine Nat.le_of_not_lt fun hlt => ?_
      rcases newest_is ac a.item cs (F a.txn) hfl with ⟨k1, k2⟩ | ⟨k, x, k1, k2, k3, k4, k5⟩
      · have := k2 _ _ hlt (at_idx z1)
        rw [z2] at this; cases this
      · rw [← hs] at k3
        have v0 : a.ver ≠ 0 := by
          have := hR.pos x (List.mem_of_getElem? k2); rw [k3]; omega
        have hvi := idx_of hR.nd (k3 ▸ k2)
        have := k5 _ _ (by have := z3 v0; omega) hlt (at_idx z1)
        rw [z2] at this; cases this
/-- Fekete and others: of a round over snapshots two antidependencies stand one behind the other. -/
theorem two_rw (hR : Right cs ac) (hS : SnapsP cs ac) {r : Nat → Int} {n : Nat} (hn : 0 < n) (hper : ∀ i, r (i + n) = r i) (hE : ∀ i, ∃ d ∈ graphP cs ac, d.fr = r i ∧ d.to = r (i + 1)) :
    ∃ i, i < n ∧ (⟨r i, r (i + 1), 3⟩ : Dp) ∈ graphP cs ac ∧ (⟨r (i + 1), r (i + 2), 3⟩ : Dp) ∈ graphP cs ac := by
  refine Classical.byContradiction fun hno => ?_
  obtain ⟨F, hF⟩ : ∃ F : Int → Nat, ∀ t ∈ cs, F t ≤ cs.idxOf t ∧ SnapP cs ac t (F t) :=
    ⟨fun t => if h : t ∈ cs then (hS t h).choose else 0, fun t h => by dsimp only; rw [dif_pos h]; exact (hS t h).choose_spec⟩
  have hmod : ∀ i, r i = r (i % n) := fun i => by
    have : ∀ q j, r (j + q * n) = r j := fun q => by
      induction q with
      | zero => intro j; rw [Nat.zero_mul, Nat.add_zero]
      | succ q ih => intro j; rw [Nat.succ_mul, ← Nat.add_assoc, hper]; exact ih j
    have h := this (i / n) (i % n)
    rw [Nat.mul_comm, Nat.mod_add_div] at h
    exact h
  have hno2 : ∀ i, (⟨r i, r (i + 1), 3⟩ : Dp) ∈ graphP cs ac → (⟨r (i + 1), r (i + 2), 3⟩ : Dp) ∉ graphP cs ac := fun i h1 h2 => by
    refine hno ⟨i % n, Nat.mod_lt _ hn, ?_, ?_⟩
    · rw [← hmod i, show r (i % n + 1) = r (i + 1) by rw [hmod (i % n + 1), hmod (i + 1)]; simp [Nat.add_mod]]; exact h1
    · rw [show r (i % n + 1) = r (i + 1) by rw [hmod (i % n + 1), hmod (i + 1)]; simp [Nat.add_mod], show r (i % n + 2) = r (i + 2) by rw [hmod (i % n + 2), hmod (i + 2)]; simp [Nat.add_mod]]; exact h2
  have step : ∀ i, (⟨r i, r (i + 1), 3⟩ : Dp) ∉ graphP cs ac → r i ∈ cs ∧ r (i + 1) ∈ cs ∧ cs.idxOf (r i) < F (r (i + 1)) := fun i hi => by
    obtain ⟨⟨fr, tv, kd⟩, hd, e1, e2⟩ := hE i
    dsimp only at e1 e2
    subst e1 e2
    obtain ⟨q1, q2, q3⟩ := snap_dep hR hF hd
    dsimp only at q1 q2 q3
    rcases q3 with ⟨k, -⟩ | ⟨-, k⟩
    · rw [k] at hd; exact absurd hd hi
    · exact ⟨q1, q2, k⟩
  have up : ∀ i, (⟨r i, r (i + 1), 3⟩ : Dp) ∉ graphP cs ac → ∃ j, (⟨r j, r (j + 1), 3⟩ : Dp) ∉ graphP cs ac ∧ cs.idxOf (r i) < cs.idxOf (r j) ∧ r j ∈ cs := fun i hi => by
    obtain ⟨p1, p2, p3⟩ := step i hi
    by_cases h2 : (⟨r (i + 1), r (i + 2), 3⟩ : Dp) ∈ graphP cs ac
    · obtain ⟨q1, q2, q3⟩ := snap_dep hR hF h2
      dsimp only at q1 q2 q3
      have q4 := q3.resolve_right fun k => k.1 rfl
      exact ⟨i + 2, hno2 (i + 1) h2, by omega, q2⟩
    · exact ⟨i + 1, h2, Nat.lt_of_lt_of_le p3 (hF _ p2).1, p2⟩
  have asc : ∀ q i, (⟨r i, r (i + 1), 3⟩ : Dp) ∉ graphP cs ac → cs.length ≤ cs.idxOf (r i) + q → False := fun q => by
    induction q with
    | zero =>
      intro i hi hq
      have := List.idxOf_lt_length_of_mem (step i hi).1
      omega
    | succ q ih =>
      intro i hi hq
      obtain ⟨j, h1, h2, h3⟩ := up i hi
      exact ih j h1 (by omega)
  by_cases h0 : (⟨r 0, r (0 + 1), 3⟩ : Dp) ∈ graphP cs ac
  · exact asc cs.length 1 (hno2 0 h0) (by omega)
  · exact asc cs.length 0 h0 (by omega)
end
end Go.Proofs.YtnpeankmmojebaaGreatDoor

/- Layer 11: the law's leads and last. -/
namespace Go.Proofs.YtnpeankmmojebaaGreatDoor
set_option maxRecDepth 100000
set_option maxRecDepth 100000
open Go.RowKit

section
variable {w : World} {gA : Option Addr} {gc : Nat} {GR : List Dp}
end
section
variable {w : World} {A B oA : Option Addr} {n c m d on oc : Nat} {cs : List Int} {ac : List Ac} {l : List Int}
end
end Go.Proofs.YtnpeankmmojebaaGreatDoor
