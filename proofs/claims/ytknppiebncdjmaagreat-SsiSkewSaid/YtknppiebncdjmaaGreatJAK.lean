import Derived.Test.YtknppiebncdjmaaGreatJAJ
set_option linter.unusedVariables false
namespace Go.Proofs.YtknppiebncdjmaaGreat
set_option maxRecDepth 100000

section
variable {c : Cp10} {S : St10} {vs : List Ver10} {rs : List Run10} {now : Int}
theorem Inv10.under (h : Inv10 c S vs rs now) {i : Nat} {r : Run10} (hi : rs[i]? = some r) (hr : r.over = false) : ∃ (k : Nat) (t : Tx10), underP S.list r.tx = some k ∧ S.list[k]? = some t ∧ t.num = (i : Int) + 1 ∧ t.ended = 0 ∧ t.snap = r.snap := by
  obtain ⟨t, ht, e, e0⟩ := h.al i r hi hr
  have htx := h.tx i r hi
  cases hu : underP S.list r.tx with
  | none =>
    unfold underP at hu
    have := List.findIdx?_eq_none_iff.1 hu t ht
    simp [htx, e, liveT, e0] at this
  | some k =>
    unfold underP at hu
    obtain ⟨hk, h1, -⟩ := List.findIdx?_eq_some_iff_getElem.1 hu
    simp only [Bool.and_eq_true, decide_eq_true_eq, liveT] at h1
    have hm : S.list[k] ∈ S.list := List.getElem_mem hk
    have : S.list[k] = t := nums_inj h.nd hm ht (by rw [h1.1, htx, e])
    refine ⟨k, t, rfl, by rw [List.getElem?_eq_getElem hk, this], e, e0, ?_⟩
    obtain ⟨j, q, hj, e2, e3, -⟩ := h.tr t ht
    have : j = i := num_inj (e2.symm.trans e)
    subst this
    rw [hi] at hj; cases hj
    exact e3
theorem numP_at {l : List Tx10} {k : Nat} {t : Tx10} (h : l[k]? = some t) : numP l k = t.num := by unfold numP; rw [h]; rfl
theorem snapP_at {l : List Tx10} {k : Nat} {t : Tx10} (h : l[k]? = some t) : snapP l k = t.snap := by unfold snapP; rw [h]; rfl
theorem Inv10.other (h : Inv10 c S vs rs now) {i j k : Nat} {r q : Run10} {t : Tx10} (hi : rs[i]? = some r) (hr : r.over = false) (hk : S.list[k]? = some t) (ht : t.num = (i : Int) + 1) (hji : j ≠ i) (hj : rs[j]? = some q) (hv : Val10 q) (hc : q.over = true → r.begun < q.ended) (hm : q.writes ≠ [] ∨ q.reads ≠ []) :
    ∃ (o : Nat) (u : Tx10), S.list[o]? = some u ∧ u.num = (j : Int) + 1 ∧ concP S.list k o = true ∧ (u.ended = 0 ∧ q.over = false ∨ u.ended ≠ 0 ∧ ∀ l, l ∈ u.wrote ↔ l ∈ q.writes) := by
  have htm := List.mem_of_getElem? hk
  have conc : ∀ {o : Nat} {u : Tx10}, S.list[o]? = some u → u.num = (j : Int) + 1 → (u.ended = 0 ∨ t.begun < u.ended) → concP S.list k o = true := fun {o u} ho e hor => by
    have hne : k ≠ o := fun e2 => by
      subst e2
      rw [hk] at ho; cases ho
      exact hji (num_inj (e.symm.trans ht))
    unfold concP
    rw [hk, ho]
    simp [hne, hor]
  by_cases hov : q.over = true
  · have hcom : q.com = true := by
      rcases hv with h1 | h1
      · rw [hov] at h1; cases h1
      · exact h1
    obtain ⟨u, hu, e⟩ := h.kp i j r q hi hj hr hcom (hc hov) hm
    obtain ⟨o, ho⟩ := List.mem_iff_getElem?.1 hu
    obtain ⟨j2, q2, hj2, e2, -, -, -, -, h7, h8⟩ := h.tr u hu
    have : j = j2 := num_inj (e.symm.trans e2)
    subst this
    rw [hj] at hj2; cases hj2
    have hne : u.ended ≠ 0 := fun e3 => by have := (h7 e3).1; rw [hov] at this; cases this
    exact ⟨o, u, ho, e, conc ho e (.inr ((h.mo u hu t htm j i q r hj hi e ht hne).2 (hc hov))), .inr ⟨hne, (h8 hne).2⟩⟩
  · have hov' : q.over = false := by simpa using hov
    obtain ⟨u, hu, e, e0⟩ := h.al j q hj hov'
    obtain ⟨o, ho⟩ := List.mem_iff_getElem?.1 hu
    exact ⟨o, u, ho, e, conc ho e (.inl e0), .inl ⟨e0, hov'⟩⟩
theorem set_same {i : Nat} {r : Run10} (hi : rs[i]? = some r) : rs.set i r = rs := by
  obtain ⟨hl, he⟩ := List.getElem?_eq_some_iff.1 hi
  rw [← he]; exact List.set_getElem_self hl
theorem Inv10.noted (h : Inv10 c S vs rs now) {i k : Nat} {r : Run10} {t : Tx10} (hi : rs[i]? = some r) (hr : r.over = false) (hk : S.list[k]? = some t) (ht : t.num = (i : Int) + 1) (x : Rd) (lo hi' : ByteArray) (ls : List Lk)
    (hls : ∀ l ∈ ls, hasP x l.1 l.2 = true ∧ l.1 = x.tb ∧ withinB l.2 lo hi' = true) :
    ((note10 c S k x lo hi').1 = 0 → Inv10 c (note10 c S k x lo hi').2 vs (rs.set i (ls.foldl (seesP vs) r)) (now + 1)) ∧ ((note10 c S k x lo hi').1 ≠ 0 → Inv10 c (note10 c S k x lo hi').2 vs (rs.set i { r with over := true, ended := now }) (now + 1)) := by
  obtain ⟨q, hq⟩ : ∃ q, noteP c.reads S.L (numP S.list k) x = q := ⟨_, rfl⟩
  obtain ⟨k1, k2, k3, k4⟩ := note_keeps h.n9 (numP S.list k) x
  rw [hq] at k1 k2 k3 k4
  rw [numP_at hk, ht] at k3 k4
  obtain ⟨a, L1⟩ := q
  simp only at k1 k2 k3 k4
  have hf : ∀ n ∈ L1, n.1 = (i : Int) + 1 ∨ ∃ m ∈ S.L, m.1 = n.1 := fun n hn => by
    rcases k3 n hn with ⟨e, -⟩ | h1
    · exact .inl e
    · exact .inr h1
  unfold note10
  rw [hq]
  simp only
  by_cases ha : a = 0
  · subst ha
    simp only [ne_eq, not_true_eq_false, if_false]
    obtain ⟨-, -, k5⟩ := k4 rfl
    obtain ⟨oth, hoth⟩ : ∃ o, writersP { S with L := L1 } k x.tb lo hi' = o := ⟨_, rfl⟩
    rw [hoth]
    unfold putP10
    simp only
    cases hb : badP (oth.foldl (flagP true k) S.list) k oth with
    | true =>
      simp only [if_true]
      refine ⟨fun e => (by cases e), fun _ => ?_⟩
      exact h.abort hi hr hk ht h.on (fun _ _ _ => Iff.rfl) k1 hf k2 (H1 := S.H) (L1 := L1)
    | false =>
      simp only [Bool.false_eq_true, if_false, not_true_eq_false, false_implies, and_true, true_implies]
      obtain ⟨f1, f2, f3, f4, f5, f6, f7, f8⟩ := sees_fields vs ls r
      have hrr : (ls.foldl (seesP vs) r) = { r with reads := (ls.foldl (seesP vs) r).reads, writes := r.writes } := by
        obtain ⟨q, hq⟩ : ∃ q, ls.foldl (seesP vs) r = q := ⟨_, rfl⟩
        rw [hq] at f1 f2 f3 f4 f5 f6 f7 ⊢
        obtain ⟨q1, q2, q3, q4, q5, q6, q7, q8⟩ := q
        obtain ⟨r1, r2, r3, r4, r5, r6, r7, r8⟩ := r
        simp only at f1 f2 f3 f4 f5 f6 f7
        subst f1 f2 f3 f4 f5 f6 f7
        rfl
      rw [hrr]
      refine h.put hi hr hk ht (H1 := S.H) (L1 := L1) oth true _ r.writes h.on (fun _ _ _ => Iff.rfl) (fun l => ?_) k1 hf k2 (fun p hp => ?_) (fun p hp => ?_) (h.la i r hi).2.2.2.2 (fun v hv hw => h.fw i r hi hr v hv hw) hb (fun j q l s hji hj hv hc hl hw => ?_) (fun j q l s hji hj hv hc hl hw => .inl hw)
      · rw [h.hs]
        constructor
        · rintro ⟨j, q, e, hj, -, hl⟩
          have : j = i := (num_inj e).symm
          subst this
          rw [hi] at hj; cases hj
          exact hl
        · intro hl; exact ⟨i, r, rfl, hi, hr, hl⟩
      · rcases (f8 p).1 hp with hp | ⟨hp, -, -⟩
        · obtain ⟨n, hn, e1, e2⟩ := h.nr t (List.mem_of_getElem? hk) i r hi ht p hp
          obtain ⟨m, hm, e3, e4⟩ := k2 n hn _ _ e2
          exact ⟨m, hm, e3.trans (e1.trans ht), e4⟩
        · exact k5 _ _ (hls p.1 hp).1
      · rcases (f8 p).1 hp with hp | ⟨-, -, e⟩
        · exact h.rd i r hi p hp
        · exact e
      · rcases (f8 (l, s)).1 hl with hl | ⟨hl, -, -⟩
        · exact .inl ⟨s, hl⟩
        · right
          refine ⟨rfl, ?_⟩
          obtain ⟨o, u, ho, e, hcc, hor⟩ := h.other hi hr hk ht hji hj hv hc.2 (.inl fun e => by rw [e] at hw; cases hw)
          obtain ⟨-, g2, g3⟩ := hls l hl
          refine ⟨o, ?_, u, ho, e⟩
          rw [← hoth]
          unfold writersP
          rw [List.mem_filter, List.mem_range]
          refine ⟨(List.getElem?_eq_some_iff.1 ho).1, ?_⟩
          simp only [hcc, ho, Option.elim_some, Bool.true_and]
          unfold wroteP
          rcases hor with ⟨e0, hov⟩ | ⟨e0, hwr⟩
          · rw [Bool.or_eq_true]
            left
            rw [Bool.and_eq_true]
            refine ⟨by simp [liveT, e0], ?_⟩
            rw [List.any_eq_true]
            refine ⟨u.num, ((rise_is _).2 _).2 ?_, by simp⟩
            unfold whoP
            rw [List.mem_map]
            refine ⟨(l, u.num), List.mem_filter.2 ⟨(h.hs l u.num).2 ⟨j, q, e, hj, hov, hw⟩, ?_⟩, rfl⟩
            unfold inH
            simp only [g2, g3, beq_self_eq_true, Bool.and_self]
          · rw [Bool.or_eq_true]
            right
            rw [List.any_eq_true]
            exact ⟨l, (hwr l).2 hw, by simp [g2, g3]⟩
  · rw [if_pos ha]
    refine ⟨fun e => absurd e ha, fun _ => ?_⟩
    exact h.abort hi hr hk ht h.on (fun _ _ _ => Iff.rfl) k1 hf k2 (H1 := S.H) (L1 := L1)
theorem within_self (k : ByteArray) : withinB k k (k ++ ⟨#[0]⟩) = true := by
  unfold withinB
  rw [klB_irrefl, klB_zero, klB_irrefl]
  simp
theorem Inv10.read (h : Inv10 c S vs rs now) {i : Nat} {r : Run10} (hi : rs[i]? = some r) (hr : r.over = false) (l : Lk) :
    ((read10 c S r.tx l).1 = 0 → Inv10 c (read10 c S r.tx l).2 vs (rs.set i (seesP vs r l)) (now + 1)) ∧ ((read10 c S r.tx l).1 ≠ 0 → Inv10 c (read10 c S r.tx l).2 vs (rs.set i { r with over := true, ended := now }) (now + 1)) := by
  obtain ⟨k, t, hu, hk, ht, -, -⟩ := h.under hi hr
  unfold read10
  rw [hu]
  simp only
  by_cases hh : holderP S.H l = some r.tx
  · rw [if_pos hh]
    refine ⟨fun _ => ?_, fun e => absurd rfl e⟩
    have hw : l ∈ r.writes := by
      have := (holder_some h.on).1 hh
      rw [h.tx i r hi] at this
      obtain ⟨j, q, e, hj, -, hl⟩ := (h.hs _ _).1 this
      have : j = i := (num_inj e).symm
      subst this
      rw [hi] at hj; cases hj
      exact hl
    have : seesP vs r l = r := by unfold seesP; rw [if_pos (hasLk_is.2 hw)]
    rw [this, set_same hi]
    exact h.tick
  · rw [if_neg hh]
    have := h.noted hi hr hk ht ⟨l.1, 1, l.2, ⟨#[]⟩⟩ l.2 (l.2 ++ ⟨#[0]⟩) [l] fun l' hl' => by
      rw [List.mem_singleton.1 hl']
      refine ⟨?_, rfl, within_self _⟩
      unfold hasP
      simp
    exact this
theorem Inv10.scan (h : Inv10 c S vs rs now) {i : Nat} {r : Run10} (hi : rs[i]? = some r) (hr : r.over = false) (tb lo hi' : ByteArray) (ls : List Lk) (hls : ∀ l ∈ ls, l.1 = tb ∧ withinB l.2 lo hi' = true) :
    ((scan10 c S r.tx tb lo hi').1 = 0 → Inv10 c (scan10 c S r.tx tb lo hi').2 vs (rs.set i (ls.foldl (seesP vs) r)) (now + 1)) ∧ ((scan10 c S r.tx tb lo hi').1 ≠ 0 → Inv10 c (scan10 c S r.tx tb lo hi').2 vs (rs.set i { r with over := true, ended := now }) (now + 1)) := by
  obtain ⟨k, t, hu, hk, ht, -, -⟩ := h.under hi hr
  unfold scan10
  rw [hu]
  simp only
  cases hh : !(hi'.toList == []) && !klB lo hi' with
  | true =>
    rw [if_pos rfl]
    refine ⟨fun _ => ?_, fun e => absurd rfl e⟩
    simp only [Bool.and_eq_true, Bool.not_eq_true'] at hh
    have hnil : ls = [] := by
      cases ls with
      | nil => rfl
      | cons l ls =>
        obtain ⟨-, h1⟩ := hls l (List.mem_cons_self ..)
        unfold withinB at h1
        rw [hh.1] at h1
        simp only [Bool.false_or, Bool.and_eq_true, Bool.not_eq_true'] at h1
        have := klB_le_lt h1.1 h1.2
        rw [hh.2] at this; cases this
    subst hnil
    rw [List.foldl_nil, set_same hi]
    exact h.tick
  | false =>
    rw [if_neg (by simp)]
    refine h.noted hi hr hk ht ⟨tb, 2, lo, hi'⟩ lo hi' ls fun l hl => ?_
    obtain ⟨h1, h2⟩ := hls l hl
    refine ⟨?_, h1, h2⟩
    unfold hasP
    unfold withinB at h2
    simp only [h1, beq_self_eq_true, Bool.true_and]
    rw [if_neg (show ¬ (2 : Int) = 1 by decide), if_pos trivial]
    exact h2
theorem Inv10.write (h : Inv10 c S vs rs now) {i : Nat} {r : Run10} (hi : rs[i]? = some r) (hr : r.over = false) (l : Lk) (last : Int) (hl0 : 0 ≤ last) (hlast : ∀ v ∈ vs, v.at_ = l → v.num ≤ last) :
    ((write10 c S r.tx l last).1 = 0 → Inv10 c (write10 c S r.tx l last).2 vs (rs.set i { r with writes := if hasLk r.writes l = true then r.writes else r.writes ++ [l] }) (now + 1)) ∧ ((write10 c S r.tx l last).1 ≠ 0 → Inv10 c (write10 c S r.tx l last).2 vs (rs.set i { r with over := true, ended := now }) (now + 1)) := by
  obtain ⟨k, t, hu, hk, ht, ht0, hsn⟩ := h.under hi hr
  have htx := h.tx i r hi
  have mine : ∀ l, (l, (i : Int) + 1) ∈ S.H ↔ l ∈ r.writes := fun l => by
    rw [h.hs]
    constructor
    · rintro ⟨j, q, e, hj, -, hl⟩
      have : j = i := (num_inj e).symm
      subst this
      rw [hi] at hj; cases hj
      exact hl
    · intro hl; exact ⟨i, r, rfl, hi, hr, hl⟩
  unfold write10
  rw [hu]
  simp only
  rw [if_neg (by omega)]
  by_cases hh : holderP S.H l = some r.tx
  · rw [if_pos hh]
    refine ⟨fun _ => ?_, fun e => absurd rfl e⟩
    have hw : l ∈ r.writes := by
      have := (holder_some h.on).1 hh
      rw [htx] at this
      exact (mine l).1 this
    rw [if_pos (hasLk_is.2 hw), set_same hi]
    exact h.tick
  · rw [if_neg hh]
    have hnw : l ∉ r.writes := fun hw => hh ((holder_some h.on).2 (by rw [htx]; exact (mine l).2 hw))
    rw [snapP_at hk, hsn]
    have ho := h.on.take (most := c.locks) r.tx r.snap last l
    obtain ⟨q, hq⟩ : ∃ q, takeP c.locks S.H r.tx r.snap last l = q := ⟨_, rfl⟩
    rw [hq] at ho
    have spec : (q.1 ≠ 0 ∧ q.2 = S.H) ∨ (q.1 = 0 ∧ q.2 = S.H ++ [(l, r.tx)] ∧ last ≤ r.snap) := by
      rw [← hq]
      unfold takeP
      split
      · exact .inl ⟨by simp, rfl⟩
      · split
        · rename_i x hx
          split
          · rename_i e
            rw [e] at hx; exact absurd hx hh
          · exact .inl ⟨by simp, rfl⟩
        · split
          · exact .inl ⟨by simp, rfl⟩
          · split
            · exact .inl ⟨by simp, rfl⟩
            · exact .inr ⟨rfl, rfl, by omega⟩
    rw [hq]
    obtain ⟨a, H1⟩ := q
    simp only at ho spec ⊢
    have hL : Holds9 S.L S.L := Holds9.refl _
    have hf : ∀ n ∈ S.L, n.1 = (i : Int) + 1 ∨ ∃ m ∈ S.L, m.1 = n.1 := fun n hn => .inr ⟨n, hn, rfl⟩
    rcases spec with ⟨ha, rfl⟩ | ⟨rfl, rfl, hle⟩
    · rw [if_pos ha]
      exact ⟨fun e => absurd e ha, fun _ => h.abort hi hr hk ht h.on (fun _ _ _ => Iff.rfl) h.n9 hf hL (H1 := S.H) (L1 := S.L)⟩
    · have hH : ∀ l' x, x ≠ (i : Int) + 1 → ((l', x) ∈ S.H ++ [(l, r.tx)] ↔ (l', x) ∈ S.H) := fun l' x hx => by
        simp only [List.mem_append, List.mem_singleton, Prod.mk.injEq]
        refine ⟨fun h1 => ?_, .inl⟩
        rcases h1 with h1 | ⟨-, e⟩
        · exact h1
        · exact absurd (e.trans htx) hx
      rw [if_neg (by simp)]
      cases htk : takenP S.list k l with
      | true =>
        rw [if_pos rfl]
        exact ⟨fun e => (by cases e), fun _ => h.abort hi hr hk ht ho hH h.n9 hf hL (L1 := S.L)⟩
      | false =>
        rw [if_neg (by simp)]
        obtain ⟨oth, hoth⟩ : ∃ o, readersP { S with H := S.H ++ [(l, r.tx)] } k l = o := ⟨_, rfl⟩
        rw [hoth]
        unfold putP10
        simp only
        cases hb : badP (oth.foldl (flagP false k) S.list) k oth with
        | true =>
          simp only [if_true]
          exact ⟨fun e => (by cases e), fun _ => h.abort hi hr hk ht ho hH h.n9 hf hL (L1 := S.L)⟩
        | false =>
          have hnl : hasLk r.writes l = false := by
            cases e : hasLk r.writes l with
            | false => rfl
            | true => exact absurd (hasLk_is.1 e) hnw
          simp only [Bool.false_eq_true, if_false, not_true_eq_false, ne_eq, false_implies, and_true, true_implies, hnl]
          have := h.put hi hr hk ht (H1 := S.H ++ [(l, r.tx)]) (L1 := S.L) oth false r.reads (r.writes ++ [l]) ho hH (fun l' => ?_) h.n9 hf hL (fun p hp => ?_) (fun p hp => h.rd i r hi p hp) ?_ (fun v hv hw => ?_) hb (fun j q l' s hji hj hv hc hl hw => .inl ⟨s, hl⟩) (fun j q l' s hji hj hv hc hl hw => ?_)
          · exact this
          · simp only [List.mem_append, List.mem_singleton, Prod.mk.injEq, mine, htx, and_true]
          · obtain ⟨n, hn, e1, e2⟩ := h.nr t (List.mem_of_getElem? hk) i r hi ht p hp
            exact ⟨n, hn, e1.trans ht, e2⟩
          · rw [List.nodup_append]
            refine ⟨(h.la i r hi).2.2.2.2, by simp, fun a ha b hb2 e => ?_⟩
            rw [List.mem_singleton.1 hb2] at e
            exact hnw (e ▸ ha)
          · rcases List.mem_append.1 hw with hw | hw
            · exact h.fw i r hi hr v hv hw
            · have := hlast v hv (List.mem_singleton.1 hw)
              omega
          · rcases List.mem_append.1 hw with hw | hw
            · exact .inl hw
            · right
              refine ⟨rfl, ?_⟩
              rw [List.mem_singleton.1 hw] at hl
              obtain ⟨o, u, ho1, e, hcc, -⟩ := h.other hi hr hk ht hji hj hv (fun e => hc.1 e) (.inr fun e => by rw [e] at hl; cases hl)
              refine ⟨o, ?_, u, ho1, e⟩
              rw [← hoth]
              unfold readersP
              rw [List.mem_filter, List.mem_range]
              refine ⟨(List.getElem?_eq_some_iff.1 ho1).1, ?_⟩
              obtain ⟨n, hn, e1, e2⟩ := h.nr u (List.mem_of_getElem? ho1) j q hj e (l, s) hl
              simp only [hcc, Bool.true_and, decide_eq_true_eq, numP_at ho1]
              exact ((tx_is _ _).2 _).2 ⟨n, hn, e2, e1⟩
theorem Inv10.aborted (h : Inv10 c S vs rs now) {i : Nat} {r : Run10} (hi : rs[i]? = some r) (hr : r.over = false) :
    (abort10 S r.tx).1 = 0 ∧ Inv10 c (abort10 S r.tx).2 vs (rs.set i { r with over := true, ended := now }) (now + 1) := by
  obtain ⟨k, t, hu, hk, ht, -, -⟩ := h.under hi hr
  unfold abort10
  rw [hu]
  exact ⟨rfl, h.abort hi hr hk ht h.on (fun _ _ _ => Iff.rfl) h.n9 (fun n hn => .inr ⟨n, hn, rfl⟩) (Holds9.refl _) (H1 := S.H) (L1 := S.L)⟩
theorem two_live {l : List Tx10} {k o : Nat} {t u : Tx10} (hk : l[k]? = some t) (ho : l[o]? = some u) (hne : k ≠ o) (ht : t.ended = 0) (hu : u.ended = 0) : activeP l ≠ 1 := by
  have key : ∀ {l : List Tx10} {k o : Nat} {t u : Tx10}, k < o → l[k]? = some t → l[o]? = some u → t.ended = 0 → u.ended = 0 → 2 ≤ activeP l := by
    intro l
    induction l with
    | nil => intro k o t u _ h1; simp at h1
    | cons x l ih =>
      intro k o t u hlt h1 h2 h3 h4
      cases o with
      | zero => omega
      | succ o =>
        have h2' : l[o]? = some u := by simpa using h2
        cases k with
        | zero =>
          have hx : x = t := by simpa using h1
          subst hx
          have : 1 ≤ (l.filter liveT).length := List.length_pos_of_mem (List.mem_filter.2 ⟨List.mem_of_getElem? h2', by simp [liveT, h4]⟩)
          unfold activeP
          rw [List.filter_cons_of_pos (by simp [liveT, h3]), List.length_cons]
          omega
        | succ k =>
          have := ih (k := k) (o := o) (by omega) (by simpa using h1) h2' h3 h4
          unfold activeP at *
          have h5 := List.length_filter_le liveT l
          by_cases hx : liveT x = true
          · rw [List.filter_cons_of_pos hx, List.length_cons]; omega
          · rw [List.filter_cons_of_neg hx]; exact this
  rcases Nat.lt_or_gt_of_ne hne with h1 | h1
  · have := key h1 hk ho ht hu; omega
  · have := key h1 ho hk hu ht; omega
def layP (vs : List Ver10) (num i : Int) (ws : List Lk) : List Ver10 := ws.foldl (layV · num i ·) vs
theorem Inv10.committed (h : Inv10 c S vs rs now) {i : Nat} {r : Run10} (hi : rs[i]? = some r) (hr : r.over = false) :
    ((commit10 c S r.tx).1.2 = 0 → (commit10 c S r.tx).1.1 = (if r.writes = [] then S.last else S.last + 1) ∧ (commit10 c S r.tx).2.last = (commit10 c S r.tx).1.1 ∧
      Inv10 c (commit10 c S r.tx).2 (layP vs (commit10 c S r.tx).1.1 (i : Int) r.writes) (rs.set i { r with over := true, com := true, ended := now }) (now + 1)) ∧
    ((commit10 c S r.tx).1.2 ≠ 0 → Inv10 c (commit10 c S r.tx).2 vs (rs.set i { r with over := true, ended := now }) (now + 1)) := by
  obtain ⟨k, t, hu, hk, ht, ht0, -⟩ := h.under hi hr
  have htx := h.tx i r hi
  have ab := h.abort hi hr hk ht h.on (fun _ _ _ => Iff.rfl) h.n9 (fun n hn => .inr ⟨n, hn, rfl⟩) (Holds9.refl _) (H1 := S.H) (L1 := S.L)
  have hwr : ∀ l, l ∈ heldP S.H r.tx ↔ l ∈ r.writes := fun l => by
    rw [(held_is h.on r.tx).2, htx, h.hs]
    constructor
    · rintro ⟨j, q, e, hj, -, hl⟩
      have : j = i := (num_inj e).symm
      subst this
      rw [hi] at hj; cases hj
      exact hl
    · intro hl; exact ⟨i, r, rfl, hi, hr, hl⟩
  have hwn : heldP S.H r.tx = [] ↔ r.writes = [] := by
    constructor
    · intro e
      cases hw : r.writes with
      | nil => rfl
      | cons l ls => have := (hwr l).2 (by rw [hw]; exact List.mem_cons_self ..); rw [e] at this; cases this
    · intro e
      cases hw : heldP S.H r.tx with
      | nil => rfl
      | cons l ls => have := (hwr l).1 (by rw [hw]; exact List.mem_cons_self ..); rw [e] at this; cases this
  unfold commit10
  rw [hu]
  simp only
  cases hb : bothP S.list k with
  | true =>
    rw [if_pos rfl]
    exact ⟨fun e => (by cases e), fun _ => ab⟩
  | false =>
    rw [if_neg (by simp)]
    obtain ⟨wr, hw⟩ : ∃ w, heldP S.H r.tx = w := ⟨_, rfl⟩
    rw [hw] at hwr hwn ⊢
    obtain ⟨mat, hmat⟩ : ∃ m, (decide (wr ≠ []) || decide (ofP S.L r.tx ≠ [])) = m := ⟨_, rfl⟩
    rw [hmat]
    split
    · exact ⟨fun e => (by cases e), fun _ => ab⟩
    · refine ⟨fun _ => ⟨by simp only [ne_eq, ite_not, hwn], ?_, ?_⟩, fun e => absurd rfl e⟩
      · have hsw : ∀ X : St10, (sweepP X).last = X.last := fun _ => rfl
        simp only
        rw [hsw]
        by_cases hc : activeP S.list = 1 ∨ mat = false
        · rw [if_pos hc]
        · rw [if_neg hc]
      · obtain ⟨keep, hkeep⟩ : ∃ b : Bool, b = !(decide (activeP S.list = 1) || !mat) := ⟨_, rfl⟩
        obtain ⟨last, hlast⟩ : ∃ x : Int, (if wr ≠ [] then S.last + 1 else S.last) = x := ⟨_, rfl⟩
        rw [hlast]
        have hl2 : last = if r.writes = [] then S.last else S.last + 1 := by rw [← hlast]; simp only [ne_eq, ite_not, hwn]
        have hlc := h.lc
        have hlay : LayIs vs (layP vs last (i : Int) r.writes) last (i : Int) r.writes := by
          by_cases hwe : r.writes = []
          · rw [hwe]
            exact ⟨Nat.le_refl _, fun k v hv => ⟨v, hv, rfl, rfl, rfl⟩, fun k u hu hk => by have := (List.getElem?_eq_some_iff.1 hu).1; unfold layP at this; simp at this; omega, fun l hl => absurd hl (by simp), h.vn, h.vi⟩
          · rw [if_neg hwe] at hl2
            have := lay_all (vs := vs) (N := last) (i := (i : Int)) (fun v hv => by
              obtain ⟨j, q, -, -, -, -, h5, -⟩ := h.ve v hv
              omega) r.writes [] vs (by simpa using (h.la i r hi).2.2.2.2) ⟨Nat.le_refl _, fun k v hv => ⟨v, hv, rfl, rfl, rfl⟩, fun k u hu hk => by have := (List.getElem?_eq_some_iff.1 hu).1; omega, fun l hl => (by cases hl), h.vn, h.vi⟩
            rw [List.nil_append] at this
            exact this
        have := h.commit hi hr hk ht wr hwr keep last hl2 (fun a ra hai ha hov hne => ?_) (fun hbo => ?_) hlay (fun e => by rw [e]; rfl)
        · have hS : comS S k t wr keep last = sweepP (if activeP S.list = 1 ∨ mat = false then { S with last := last, mom := S.mom + 1, H := releaseP S.H r.tx, list := (S.list.modify k fun t => { t with ended := S.mom + 1, wrote := wr }).eraseIdx k, L := dropN S.L r.tx } else { S with last := last, mom := S.mom + 1, H := releaseP S.H r.tx, list := S.list.modify k fun t => { t with ended := S.mom + 1, wrote := wr } }) := by
            unfold comS
            rw [ht, ← htx]
            by_cases hc : activeP S.list = 1 ∨ mat = false
            · have : keep = false := by rw [hkeep]; rcases hc with hc | hc <;> simp [hc]
              rw [this, if_neg (by simp), if_pos hc]
            · have : keep = true := by
                rw [hkeep]
                simp only [not_or] at hc
                simp [hc.1, hc.2]
              rw [this, if_pos rfl, if_neg hc]
          rw [hS] at this
          exact this
        · obtain ⟨u, hu2, eu, eu0⟩ := h.al a ra ha hov
          obtain ⟨o, ho⟩ := List.mem_iff_getElem?.1 hu2
          have hko : k ≠ o := fun e => by
            subst e
            rw [hk] at ho; cases ho
            exact hai (num_inj (eu.symm.trans ht))
          have h1 := two_live hk ho hko ht0 eu0
          have h2 : mat = true := by
            rw [← hmat]
            rcases hne with hne | hne
            · have : wr ≠ [] := fun e => hne (hwn.1 e)
              simp [this]
            · cases hrd : r.reads with
              | nil => exact absurd hrd hne
              | cons p ps =>
                obtain ⟨n, hn, e1, -⟩ := h.nr t (List.mem_of_getElem? hk) i r hi ht p (by rw [hrd]; exact List.mem_cons_self ..)
                have h3 : n.2 ∈ ofP S.L r.tx := ((of_is h.n9.ln r.tx).2 n.2).2 (by
                  have : n = (r.tx, n.2) := Prod.ext (by rw [e1, ht, htx]) rfl
                  rw [← this]; exact hn)
                have h4 : ofP S.L r.tx ≠ [] := fun e => by rw [e] at h3; cases h3
                simp [h4]
          rw [hkeep, h2]
          simp [h1]
        · unfold bothP at hb
          rw [hk] at hb
          simp only [Option.elim_some, hbo.1, hbo.2] at hb
          cases hb
theorem Inv10.began (h : Inv10 c S vs rs now) (hnow : 0 ≤ now) :
    ((begin10 c S).1.2.2 = 0 → (begin10 c S).1.2.1 = S.last ∧ (begin10 c S).2.last = S.last ∧ Inv10 c (begin10 c S).2 vs (rs ++ [⟨(begin10 c S).1.1, (begin10 c S).1.2.1, now, 0, false, false, [], []⟩]) (now + 1)) ∧ ((begin10 c S).1.2.2 ≠ 0 → (begin10 c S).2 = S) := by
  unfold begin10
  split
  · exact ⟨fun e => (by cases e), fun _ => rfl⟩
  · exact ⟨fun _ => ⟨rfl, rfl, h.begin hnow⟩, fun e => absurd rfl e⟩
theorem Inv10.new (c : Cp10) (hc : 1 ≤ c.reads) : Inv10 c (new10 0) [] [] 0 := by
  refine { nx := rfl, tx := fun i r hi => by simp at hi, nd := List.nodup_nil, tr := fun t ht => (by cases ht), al := fun i r hi => by simp at hi, mo := fun t ht => (by cases ht), mm := Int.le_refl _, on := Once.nil, hs := fun l x => ⟨fun h => (by cases h), fun ⟨i, r, _, hi, _⟩ => by simp at hi⟩, n9 := Inv9.nil _, no := fun n hn => (by cases hn), nr := fun t ht => (by cases ht), kp := fun i j r q hi => by simp at hi, la := fun i r hi => by simp at hi, ne := fun i j r q hi => by simp at hi, lc := ⟨Int.le_refl _, Int.le_refl _⟩, ve := fun v hv => (by cases hv), vw := fun j q hq => by simp at hq, vi := fun k m v u hv => by simp at hv, vn := fun k v hv => by simp at hv, fw := fun i r hi => by simp at hi, ww := fun k m v u hv => by simp at hv, rd := fun i r hi => by simp at hi, fl := ⟨fun _ => false, fun _ => false, fun t ht => (by cases ht), fun i r hi => by simp at hi, fun i j r q l s _ hi => by simp at hi⟩ }
theorem Inv10.first (h : Inv10 c S vs rs now) {a b : Nat} {ra rb : Run10} (ha : rs[a]? = some ra) (hb : rs[b]? = some rb) (hab : a ≠ b) (ca : ra.com = true) (cb : rb.com = true) {l : Lk} (la : l ∈ ra.writes) (lb : l ∈ rb.writes) : ra.ended < rb.begun ∨ rb.ended < ra.begun := by
  obtain ⟨v, hv, e1, e2⟩ := h.vw a ra ha ca l la
  obtain ⟨u, hu, e3, e4⟩ := h.vw b rb hb cb l lb
  obtain ⟨k, hk⟩ := List.mem_iff_getElem?.1 hv
  obtain ⟨m, hm⟩ := List.mem_iff_getElem?.1 hu
  have iff_ : ∀ {v : Ver10} {j : Nat} {q : Run10}, v ∈ vs → v.by_ = (j : Int) → rs[j]? = some q → ∀ (i : Nat) r, rs[i]? = some r → (v.num ≤ r.snap ↔ q.ended < r.begun) := fun {v j q} hv e hj => by
    obtain ⟨j2, q2, h1, h2, -, -, -, -, h7⟩ := h.ve v hv
    have : j = j2 := by omega
    subst this
    rw [hj] at h2; cases h2
    exact h7
  rcases Nat.lt_trichotomy k m with hlt | rfl | hlt
  · exact .inl ((iff_ hv e2 ha b rb hb).1 (h.ww k m v u hk hm hlt (e1.trans e3.symm) b rb e4 hb))
  · rw [hk] at hm; cases hm
    exact absurd (by omega) hab
  · exact .inr ((iff_ hu e4 hb a ra ha).1 (h.ww m k u v hm hk hlt (e3.trans e1.symm) a ra e2 ha))
end
end Go.Proofs.YtknppiebncdjmaaGreat

namespace Go.Proofs.YtknppiebncdjmaaGreat
set_option maxRecDepth 100000

theorem under_is {l : List Tx10} (hn : (l.map (·.num)).Nodup) {k : Nat} {t : Tx10} (hk : l[k]? = some t) (h0 : t.ended = 0) : underP l t.num = some k := by
  cases hu : underP l t.num with
  | none =>
    unfold underP at hu
    have := List.findIdx?_eq_none_iff.1 hu t (List.mem_of_getElem? hk)
    simp [liveT, h0] at this
  | some k2 =>
    unfold underP at hu
    obtain ⟨hk2, h1, -⟩ := List.findIdx?_eq_some_iff_getElem.1 hu
    simp only [Bool.and_eq_true, decide_eq_true_eq] at h1
    rw [idx_inj hn (List.getElem?_eq_getElem hk2) hk h1.1]
theorem under_none {l : List Tx10} {tx : Int} (h : ∀ t ∈ l, t.num = tx → t.ended ≠ 0) : underP l tx = none := by
  unfold underP
  rw [List.findIdx?_eq_none_iff]
  intro t ht
  by_cases e : t.num = tx
  · have := h t ht e; simp [liveT, this]
  · simp [e]
theorem of_is10 {S : St10} (hn : (S.list.map (·.num)).Nodup) {t : Tx10} (ht : t ∈ S.list) (h0 : t.ended = 0) : of10 S t.num = (t.snap, (t.fin, t.fout), 0) := by
  obtain ⟨k, hk⟩ := List.mem_iff_getElem?.1 ht
  unfold of10
  rw [under_is hn hk h0]
  simp only [snapP_at hk, hk, Option.elim_some]
section
variable {c : Cp10} {S : St10} {vs : List Ver10} {rs : List Run10} {now : Int}
theorem Inv10.of_over (h : Inv10 c S vs rs now) {i : Nat} {r : Run10} (hi : rs[i]? = some r) (hr : r.over = true) : of10 S r.tx = (0, (false, false), 101) := by
  unfold of10
  rw [under_none fun t ht e e0 => ?_]
  obtain ⟨j, q, hj, e2, -, -, -, -, h1, -⟩ := h.tr t ht
  have : j = i := by have := h.tx i r hi; omega
  subst this
  rw [hi] at hj; cases hj
  have := (h1 e0).1
  rw [hr] at this; cases this
theorem Inv10.of_alive (h : Inv10 c S vs rs now) {i : Nat} {r : Run10} (hi : rs[i]? = some r) (hr : r.over = false) : ∃ t ∈ S.list, t.num = r.tx ∧ t.ended = 0 ∧ of10 S r.tx = (r.snap, (t.fin, t.fout), 0) := by
  obtain ⟨k, t, -, hk, e, e0, es⟩ := h.under hi hr
  have htx := h.tx i r hi
  have hm := List.mem_of_getElem? hk
  refine ⟨t, hm, e.trans htx.symm, e0, ?_⟩
  have := of_is10 h.nd hm e0
  rw [e, ← htx] at this
  rw [this, es]
theorem abort_same {S : St10} (hp : ∀ t ∈ S.list, 1 ≤ t.num) (hn : (S.list.map (·.num)).Nodup) {k : Nat} {t : Tx10} (hk : S.list[k]? = some t) {H1 : List Hd} {L1 : List Nt} {u : Tx10} (hu : u ∈ S.list) (hne : u.num ≠ t.num) (h0 : u.ended = 0) : of10 (abortP { S with H := H1, L := L1 } k) u.num = of10 S u.num := by
  have A := abort_is (S := { S with H := H1, L := L1 }) hp hn hk
  rw [of_is10 (List.Nodup.sublist (A.sub.map _) hn) ((A.mem u).2 ⟨hu, hne, .inl h0⟩) h0, of_is10 hn hu h0]
theorem put_err {S : St10} {k : Nat} {others : List Nat} {out : Bool} (h : (putP10 S k others out).1 ≠ 0) : (putP10 S k others out).2 = abortP S k := by
  unfold putP10 at *
  simp only at *
  split
  · rfl
  · rename_i hb
    rw [if_neg hb] at h
    exact absurd rfl h
theorem note_err {c : Cp10} {S : St10} {k : Nat} {x : Rd} {lo hi : ByteArray} (h : (note10 c S k x lo hi).1 ≠ 0) : ∃ L1, (note10 c S k x lo hi).2 = abortP { S with L := L1 } k := by
  unfold note10 at *
  simp only at *
  split
  · exact ⟨_, rfl⟩
  · rename_i hb
    rw [if_neg hb] at h
    exact ⟨_, put_err h⟩
theorem read_err {c : Cp10} {S : St10} {tx : Int} {l : Lk} {k : Nat} (hu : underP S.list tx = some k) (h : (read10 c S tx l).1 ≠ 0) : ∃ H1 L1, (read10 c S tx l).2 = abortP { S with H := H1, L := L1 } k := by
  unfold read10 at *
  rw [hu] at h ⊢
  simp only at *
  split
  · rename_i hh
    rw [if_pos hh] at h
    exact absurd rfl h
  · rename_i hh
    rw [if_neg hh] at h
    obtain ⟨L1, e⟩ := note_err h
    exact ⟨S.H, L1, e⟩
theorem scan_err {c : Cp10} {S : St10} {tx : Int} {tb lo hi : ByteArray} {k : Nat} (hu : underP S.list tx = some k) (h : (scan10 c S tx tb lo hi).1 ≠ 0) : ∃ H1 L1, (scan10 c S tx tb lo hi).2 = abortP { S with H := H1, L := L1 } k := by
  unfold scan10 at *
  rw [hu] at h ⊢
  simp only at *
  split
  · rename_i hh
    rw [if_pos hh] at h
    exact absurd rfl h
  · rename_i hh
    rw [if_neg hh] at h
    obtain ⟨L1, e⟩ := note_err h
    exact ⟨S.H, L1, e⟩
theorem write_err {c : Cp10} {S : St10} {tx last : Int} {l : Lk} {k : Nat} (hu : underP S.list tx = some k) (hl : 0 ≤ last) (h : (write10 c S tx l last).1 ≠ 0) : ∃ H1 L1, (write10 c S tx l last).2 = abortP { S with H := H1, L := L1 } k := by
  unfold write10 at *
  rw [hu] at h ⊢
  simp only at *
  rw [if_neg (by omega)] at h ⊢
  by_cases h1 : holderP S.H l = some tx
  · rw [if_pos h1] at h; exact absurd rfl h
  · rw [if_neg h1] at h ⊢
    by_cases h2 : (takeP c.locks S.H tx (snapP S.list k) last l).1 ≠ 0
    · rw [if_pos h2]; exact ⟨_, S.L, rfl⟩
    · rw [if_neg h2] at h ⊢
      by_cases h3 : takenP S.list k l = true
      · rw [if_pos h3]; exact ⟨_, S.L, rfl⟩
      · rw [if_neg h3] at h ⊢
        exact ⟨_, S.L, put_err h⟩
def Al10 (S : St10) : Prop := S.list = [] ∨ ∃ t, S.list = [t] ∧ t.ended = 0 ∧ t.fin = false ∧ t.fout = false ∧ t.snap = S.last
theorem abort_one {S : St10} {t : Tx10} (h : S.list = [t]) {H1 : List Hd} {L1 : List Nt} : (abortP { S with H := H1, L := L1 } 0).list = [] := by
  unfold abortP
  simp [h, sweepP]
theorem conc_one (t : Tx10) (o : Nat) : concP [t] 0 o = false := by
  unfold concP
  cases o with
  | zero => simp
  | succ o => simp
theorem put_one {S : St10} {t : Tx10} (h : S.list = [t]) (h1 : t.fin = false) (out : Bool) : putP10 S 0 [] out = (0, S) := by
  unfold putP10 badP bothP
  simp [h, h1]
  rw [← h]
theorem note_one10 {c : Cp10} {S : St10} {t : Tx10} (h : S.list = [t]) (h1 : t.fin = false) (ht : 1 ≤ t.num) {x : Rd} (hx : mayP x = true) (lo hi : ByteArray) :
    ((note10 c S 0 x lo hi).1 = 0 ∧ (note10 c S 0 x lo hi).2.list = S.list ∧ (note10 c S 0 x lo hi).2.last = S.last) ∨ ((note10 c S 0 x lo hi).1 = 4 ∧ (note10 c S 0 x lo hi).2.list = []) := by
  have hans : (noteP c.reads S.L (numP S.list 0) x).1 = 0 ∨ (noteP c.reads S.L (numP S.list 0) x).1 = 4 := by
    unfold noteP
    have : ¬ (numP S.list 0 < 1 ∨ mayP x = false) := by
      rw [hx, numP_at (t := t) (by rw [h]; rfl)]; simp; omega
    rw [if_neg this]
    split
    · exact .inl rfl
    · cases shrinkP c.reads (S.L.length + 1) (addP S.L (numP S.list 0) x) with
      | none => exact .inr rfl
      | some M => exact .inl rfl
  unfold note10
  simp only
  rcases hans with e | e
  · left
    rw [e, if_neg (by simp)]
    have hw : writersP { S with L := (noteP c.reads S.L (numP S.list 0) x).2 } 0 x.tb lo hi = [] := by
      unfold writersP
      rw [List.filter_eq_nil_iff]
      intro o _
      simp only [h, conc_one]
      simp
    rw [hw, put_one (S := { S with L := (noteP c.reads S.L (numP S.list 0) x).2 }) h h1]
    exact ⟨rfl, rfl, rfl⟩
  · right
    rw [e, if_pos (by simp)]
    exact ⟨rfl, abort_one (H1 := S.H) h⟩
theorem Al10.read (a : Al10 S) (h : Inv10 c S vs rs now) {i : Nat} {r : Run10} (hi : rs[i]? = some r) (hr : r.over = false) (l : Lk) :
    ((read10 c S r.tx l).1 = 0 ∨ (read10 c S r.tx l).1 = 4) ∧ Al10 (read10 c S r.tx l).2 := by
  obtain ⟨k, t, hu, hk, ht, -⟩ := h.under hi hr
  rcases a with e | ⟨t', e, e0, e1, e2, e3⟩
  · rw [e] at hk; simp at hk
  · obtain rfl : k = 0 := by have := (List.getElem?_eq_some_iff.1 hk).1; rw [e] at this; simpa using this
    obtain rfl : t' = t := by rw [e] at hk; simpa using hk
    unfold read10
    rw [hu]
    simp only
    split
    · exact ⟨.inl rfl, .inr ⟨t', e, e0, e1, e2, e3⟩⟩
    · rcases note_one10 (c := c) e e1 (by omega) (x := ⟨l.1, 1, l.2, ⟨#[]⟩⟩) (by rw [may_1]; simp [ByteArray.toList_eq]) l.2 (l.2 ++ ⟨#[0]⟩) with ⟨h1, h2, h3⟩ | ⟨h1, h2⟩
      · exact ⟨.inl h1, .inr ⟨t', h2.trans e, e0, e1, e2, e3.trans h3.symm⟩⟩
      · exact ⟨.inr h1, .inl h2⟩
theorem Al10.scan (a : Al10 S) (h : Inv10 c S vs rs now) {i : Nat} {r : Run10} (hi : rs[i]? = some r) (hr : r.over = false) (tb lo hi' : ByteArray) :
    ((scan10 c S r.tx tb lo hi').1 = 0 ∨ (scan10 c S r.tx tb lo hi').1 = 4) ∧ Al10 (scan10 c S r.tx tb lo hi').2 := by
  obtain ⟨k, t, hu, hk, ht, -⟩ := h.under hi hr
  rcases a with e | ⟨t', e, e0, e1, e2, e3⟩
  · rw [e] at hk; simp at hk
  · obtain rfl : k = 0 := by have := (List.getElem?_eq_some_iff.1 hk).1; rw [e] at this; simpa using this
    obtain rfl : t' = t := by rw [e] at hk; simpa using hk
    unfold scan10
    rw [hu]
    simp only
    split
    · exact ⟨.inl rfl, .inr ⟨t', e, e0, e1, e2, e3⟩⟩
    · rename_i hh
      have hm : mayP ⟨tb, 2, lo, hi'⟩ = true := by
        unfold mayP
        rw [if_neg (show ¬ (2 : Int) = 1 by decide), if_pos (show (2 : Int) = 2 from rfl)]
        simp only [Bool.and_eq_true, Bool.not_eq_true', not_and, Bool.not_eq_false] at hh
        rw [Bool.or_eq_true]
        cases hE : hi'.toList == [] with
        | true => exact .inl hE
        | false => exact .inr (hh hE)
      rcases note_one10 (c := c) e e1 (by omega) hm lo hi' with ⟨h1, h2, h3⟩ | ⟨h1, h2⟩
      · exact ⟨.inl h1, .inr ⟨t', h2.trans e, e0, e1, e2, e3.trans h3.symm⟩⟩
      · exact ⟨.inr h1, .inl h2⟩
theorem Al10.write (a : Al10 S) (h : Inv10 c S vs rs now) {i : Nat} {r : Run10} (hi : rs[i]? = some r) (hr : r.over = false) (l : Lk) (last : Int) (hl0 : 0 ≤ last) (hl1 : last ≤ S.last) :
    ((write10 c S r.tx l last).1 = 0 ∨ (write10 c S r.tx l last).1 = 4) ∧ Al10 (write10 c S r.tx l last).2 := by
  obtain ⟨k, t, hu, hk, ht, -⟩ := h.under hi hr
  have htx := h.tx i r hi
  rcases a with e | ⟨t', e, e0, e1, e2, e3⟩
  · rw [e] at hk; simp at hk
  · obtain rfl : k = 0 := by have := (List.getElem?_eq_some_iff.1 hk).1; rw [e] at this; simpa using this
    obtain rfl : t' = t := by rw [e] at hk; simpa using hk
    have hlc := h.lc
    unfold write10
    rw [hu]
    simp only
    rw [if_neg (by omega), snapP_at hk, e3]
    by_cases hh : holderP S.H l = some r.tx
    · rw [if_pos hh]; exact ⟨.inl rfl, .inr ⟨t', e, e0, e1, e2, e3⟩⟩
    · rw [if_neg hh]
      have hno : holderP S.H l = none := by
        cases hx : holderP S.H l with
        | none => rfl
        | some x =>
          obtain ⟨j, q, ex, hj, ho, -⟩ := (h.hs l x).1 ((holder_some h.on).1 hx)
          obtain ⟨u, hu2, eu, -⟩ := h.al j q hj ho
          rw [e, List.mem_singleton] at hu2
          subst hu2
          exact absurd (by rw [hx, ex, htx, ← eu, ht]) hh
      have htk : takeP c.locks S.H r.tx S.last last l = if c.locks ≤ S.H.length then (4, S.H) else (0, S.H ++ [(l, r.tx)]) := by
        unfold takeP
        rw [if_neg (by omega), hno]
        simp only
        rw [if_neg (by omega)]
      rw [htk]
      by_cases hf : c.locks ≤ (S.H.length : Int)
      · rw [if_pos hf]
        simp only
        rw [if_pos (by simp)]
        exact ⟨.inr rfl, .inl (abort_one (L1 := S.L) e)⟩
      · rw [if_neg hf]
        simp only
        rw [if_neg (by simp)]
        have h1 : takenP S.list 0 l = false := by
          unfold takenP
          rw [List.any_eq_false]
          intro o _
          rw [e]
          cases ho : ([t'] : List Tx10)[o]? with
          | none => simp
          | some u => simp [conc_one]
        rw [h1, if_neg (by simp)]
        have h2 : readersP { S with H := S.H ++ [(l, r.tx)] } 0 l = [] := by
          unfold readersP
          rw [List.filter_eq_nil_iff]
          intro o _
          simp only [e, conc_one]
          simp
        rw [h2, put_one (S := { S with H := S.H ++ [(l, r.tx)] }) e e1]
        exact ⟨.inl rfl, .inr ⟨t', e, e0, e1, e2, e3⟩⟩
theorem Al10.committed (a : Al10 S) (h : Inv10 c S vs rs now) {i : Nat} {r : Run10} (hi : rs[i]? = some r) (hr : r.over = false) : (commit10 c S r.tx).1.2 = 0 ∧ (commit10 c S r.tx).2.list = [] := by
  obtain ⟨k, t, hu, hk, ht, -⟩ := h.under hi hr
  rcases a with e | ⟨t', e, e0, e1, e2, e3⟩
  · rw [e] at hk; simp at hk
  · obtain rfl : k = 0 := by have := (List.getElem?_eq_some_iff.1 hk).1; rw [e] at this; simpa using this
    obtain rfl : t' = t := by rw [e] at hk; simpa using hk
    have ha : activeP S.list = 1 := by rw [e]; simp [activeP, liveT, e0]
    unfold commit10
    rw [hu]
    simp only
    have hb : bothP S.list 0 = false := by unfold bothP; rw [e]; simp [e1]
    rw [hb, if_neg (by simp), ha]
    simp only [Nat.lt_irrefl, decide_false, Bool.false_and, Bool.false_eq_true, if_false, true_or, if_true]
    refine ⟨trivial, ?_⟩
    simp [sweepP, e]
theorem Al10.aborted (a : Al10 S) (h : Inv10 c S vs rs now) {i : Nat} {r : Run10} (hi : rs[i]? = some r) (hr : r.over = false) : (abort10 S r.tx).2.list = [] := by
  obtain ⟨k, t, hu, hk, ht, -⟩ := h.under hi hr
  rcases a with e | ⟨t', e, -⟩
  · rw [e] at hk; simp at hk
  · obtain rfl : k = 0 := by have := (List.getElem?_eq_some_iff.1 hk).1; rw [e] at this; simpa using this
    unfold abort10
    rw [hu]
    exact abort_one (H1 := S.H) (L1 := S.L) e
theorem Al10.began (h : S.list = []) (hc : 1 ≤ c.act) : (begin10 c S).1.2.2 = 0 ∧ Al10 (begin10 c S).2 := by
  unfold begin10
  have ha : activeP S.list = 0 := by rw [h]; rfl
  rw [if_neg (by rw [ha]; omega)]
  exact ⟨rfl, .inr ⟨_, by rw [h]; rfl, rfl, rfl, rfl, rfl⟩⟩
def Nr10 (S : St10) : Prop := S.L = [] ∧ ∀ t ∈ S.list, t.fin = false ∧ t.fout = false
theorem sweep_nil {S : St10} (h : S.L = []) : (sweepP S).L = [] := by
  unfold sweepP
  simp only [h]
  have : ∀ ts : List Tx10, ts.foldl (fun L t => dropN L t.num) ([] : List Nt) = [] := by
    intro ts
    induction ts with
    | nil => rfl
    | cons t ts ih => rw [List.foldl_cons]; have : dropN [] t.num = [] := by unfold dropN dropP; split <;> rfl
                      rw [this]; exact ih
  exact this _
theorem Nr10.sweep {S : St10} (h : Nr10 S) : Nr10 (sweepP S) := ⟨sweep_nil h.1, fun t ht => h.2 t (List.mem_filter.1 ht).1⟩
theorem Nr10.abort (h : Nr10 S) (k : Nat) (H1 : List Hd) : Nr10 (abortP { S with H := H1 } k) := by
  unfold abortP
  simp only
  split
  · exact h
  · refine Nr10.sweep ⟨?_, fun t ht => h.2 t ((List.eraseIdx_sublist ..).mem ht)⟩
    simp only [h.1]
    unfold dropN dropP
    split <;> rfl
theorem Nr10.write (h : Nr10 S) (tx : Int) (l : Lk) (last : Int) : (write10 c S tx l last).1 ≠ 100 ∧ Nr10 (write10 c S tx l last).2 := by
  unfold write10
  split
  · exact ⟨by simp, h⟩
  · rename_i k hu
    split
    · exact ⟨by simp, h⟩
    · split
      · exact ⟨by simp, h⟩
      · have hans : (takeP c.locks S.H tx (snapP S.list k) last l).1 ≠ 100 := by
          unfold takeP
          split
          · simp
          · split
            · split <;> simp
            · split
              · simp
              · split <;> simp
        simp only
        split
        · exact ⟨hans, h.abort k _⟩
        · split
          · exact ⟨by simp, h.abort k _⟩
          · have hr : readersP { S with H := (takeP c.locks S.H tx (snapP S.list k) last l).2 } k l = [] := by
              unfold readersP
              rw [List.filter_eq_nil_iff]
              intro o _
              simp only [h.1]
              have : ∀ f : Nt → Bool, txP [] f = [] := fun _ => rfl
              rw [this]
              simp
            rw [hr]
            unfold putP10 badP bothP
            simp only [List.foldl_nil, List.any_nil, Bool.or_false]
            have hb : (S.list[k]?).elim false (fun t => t.fin && t.fout) = false := by
              cases hk : S.list[k]? with
              | none => rfl
              | some t => simp [(h.2 t (List.mem_of_getElem? hk)).1]
            rw [hb]
            exact ⟨by simp, h⟩
theorem Nr10.committed (h : Nr10 S) (tx : Int) : (commit10 c S tx).1.2 ≠ 100 ∧ Nr10 (commit10 c S tx).2 := by
  unfold commit10
  split
  · exact ⟨by simp, h⟩
  · rename_i k hu
    have hb : bothP S.list k = false := by
      unfold bothP
      cases hk : S.list[k]? with
      | none => rfl
      | some t => simp [(h.2 t (List.mem_of_getElem? hk)).1]
    rw [hb, if_neg (by simp)]
    simp only
    have hmod : ∀ (f : Tx10 → Tx10), (∀ t, (f t).fin = t.fin ∧ (f t).fout = t.fout) → ∀ t ∈ S.list.modify k f, t.fin = false ∧ t.fout = false := fun f hf t ht => by
      obtain ⟨o, ho⟩ := List.mem_iff_getElem?.1 ht
      rw [mod_get] at ho
      split at ho
      · cases hu2 : S.list[o]? with
        | none => rw [hu2] at ho; cases ho
        | some u =>
          rw [hu2] at ho
          simp only [Option.map_some, Option.some.injEq] at ho
          rw [← ho, (hf u).1, (hf u).2]
          exact h.2 u (List.mem_of_getElem? hu2)
      · exact h.2 t (List.mem_of_getElem? ho)
    split
    · exact ⟨by simp, h.abort k S.H⟩
    · refine ⟨by simp, Nr10.sweep ?_⟩
      split
      · refine ⟨?_, fun t ht => hmod (fun t => { t with ended := S.mom + 1, wrote := heldP S.H tx }) (fun _ => ⟨rfl, rfl⟩) t ((List.eraseIdx_sublist ..).mem ht)⟩
        simp only [h.1]
        unfold dropN dropP
        split <;> rfl
      · exact ⟨h.1, fun t ht => hmod (fun t => { t with ended := S.mom + 1, wrote := heldP S.H tx }) (fun _ => ⟨rfl, rfl⟩) t ht⟩
theorem Nr10.aborted (h : Nr10 S) (tx : Int) : (abort10 S tx).1 ≠ 100 ∧ Nr10 (abort10 S tx).2 := by
  unfold abort10
  split
  · exact ⟨by simp, h⟩
  · exact ⟨by simp, h.abort _ S.H⟩
theorem Nr10.began (h : Nr10 S) : (begin10 c S).1.2.2 ≠ 100 ∧ Nr10 (begin10 c S).2 := by
  unfold begin10
  split
  · exact ⟨by simp, h⟩
  · refine ⟨by simp, h.1, fun t ht => ?_⟩
    rcases List.mem_append.1 ht with ht | ht
    · exact h.2 t ht
    · rw [List.mem_singleton.1 ht]; exact ⟨rfl, rfl⟩
end
end Go.Proofs.YtknppiebncdjmaaGreat
