import Derived.Test.YtknppiebncdjmaaGreatJAL
/- Layer 10, plain lists: what is tracked stays within the caps, and is what is under way; what is refused changes no other one's flags. -/
namespace Go.Proofs.YtknppiebncdjmaaGreat
set_option maxRecDepth 100000
set_option maxRecDepth 100000

/-- The caps are kept; what is kept is needed. -/
structure Cap10 (c : Cp10) (S : St10) : Prop where
  act : (activeP S.list : Int) ≤ c.act
  kept : (S.list.length : Int) - activeP S.list ≤ c.kept
  reads : S.L.length ≤ c.reads
  locks : (S.H.length : Int) ≤ c.locks
  need : ∀ t ∈ S.list, t.ended = 0 ∨ ∃ u ∈ S.list, u.ended = 0 ∧ u.begun < t.ended
def keptN (l : List Tx10) : Nat := (l.filter fun t => !liveT t).length
theorem kept_is (l : List Tx10) : activeP l + keptN l = l.length := by
  unfold activeP keptN
  induction l with
  | nil => rfl
  | cons t l ih => cases h : liveT t <;> simp [h] <;> omega
theorem Cap10.kn {c : Cp10} {S : St10} (h : Cap10 c S) : (keptN S.list : Int) ≤ c.kept := by
  have := kept_is S.list
  have := h.kept
  omega
theorem act_sub {l l' : List Tx10} (h : l'.Sublist l) : activeP l' ≤ activeP l ∧ keptN l' ≤ keptN l := ⟨(h.filter _).length_le, (h.filter _).length_le⟩
theorem Cap10.mk' {c : Cp10} {S : St10} (h1 : (activeP S.list : Int) ≤ c.act) (h2 : (keptN S.list : Int) ≤ c.kept) (h3 : S.L.length ≤ c.reads) (h4 : (S.H.length : Int) ≤ c.locks) (h5 : ∀ t ∈ S.list, t.ended = 0 ∨ ∃ u ∈ S.list, u.ended = 0 ∧ u.begun < t.ended) : Cap10 c S :=
  ⟨h1, by have := kept_is S.list; omega, h3, h4, h5⟩
section
variable {c : Cp10} {S : St10} {vs : List Ver10} {rs : List Run10} {now : Int}
theorem sweep_need {S : St10} (h : ∀ t ∈ S.list, 1 ≤ t.num) : ∀ t ∈ (sweepP S).list, t.ended = 0 ∨ ∃ u ∈ (sweepP S).list, u.ended = 0 ∧ u.begun < t.ended := fun t ht => by
  have A := sweep_is h
  rcases ((A.mem t).1 ht).2 with h1 | ⟨u, hu, e, hlt⟩
  · exact .inl h1
  · exact .inr ⟨u, (A.mem u).2 ⟨hu, .inl e⟩, e, hlt⟩
theorem release_le (H : List Hd) (t : Int) : (releaseP H t).length ≤ H.length := List.length_filter_le _ _
theorem Cap10.abort (h : Cap10 c S) (hp : ∀ t ∈ S.list, 1 ≤ t.num) (hn : (S.list.map (·.num)).Nodup) {k : Nat} {t : Tx10} (hk : S.list[k]? = some t) {H1 : List Hd} {L1 : List Nt} (h9 : Inv9 c.reads L1) (hH : ((releaseP H1 t.num).length : Int) ≤ c.locks) : Cap10 c (abortP { S with H := H1, L := L1 } k) := by
  have hS : abortP { S with H := H1, L := L1 } k = sweepP { S with list := S.list.eraseIdx k, H := releaseP H1 t.num, L := dropN L1 t.num } := by
    unfold abortP
    simp only
    rw [hk]
  have hpe : ∀ u ∈ ({ S with list := S.list.eraseIdx k, H := releaseP H1 t.num, L := dropN L1 t.num } : St10).list, 1 ≤ u.num := fun u hu => hp u ((erase_mem hn hk u).1 hu).1
  have A := sweep_is hpe
  rw [hS]
  have hs : (sweepP { S with list := S.list.eraseIdx k, H := releaseP H1 t.num, L := dropN L1 t.num }).list.Sublist S.list := A.sub.trans (List.eraseIdx_sublist ..)
  obtain ⟨a1, a2⟩ := act_sub hs
  refine Cap10.mk' ?_ ?_ (A.keep _ (dropN_keeps h9 _)).cap (by rw [A.H]; exact hH) (sweep_need hpe)
  · have := h.act; omega
  · have := h.kn; omega
theorem flags_live (out : Bool) (k : Nat) (others : List Nat) (l : List Tx10) : activeP (others.foldl (flagP out k) l) = activeP l ∧ (others.foldl (flagP out k) l).length = l.length := by
  have hl : (others.foldl (flagP out k) l).map (·.num) = l.map (·.num) := flags_nums out k others l
  have he : (others.foldl (flagP out k) l).map (·.ended) = l.map (·.ended) := by
    refine List.ext_getElem? fun o => ?_
    rw [List.getElem?_map, List.getElem?_map, flags_get, Option.map_map]
    congr 1
    funext t
    exact (flagT_same out k others o t).2.2.2.1
  refine ⟨?_, by simpa using congrArg List.length hl⟩
  have key : ∀ a b : List Tx10, a.map (·.ended) = b.map (·.ended) → activeP a = activeP b := by
    intro a
    induction a with
    | nil => intro b h; cases b with
      | nil => rfl
      | cons => simp at h
    | cons x a ih =>
      intro b h
      cases b with
      | nil => simp at h
      | cons y b =>
        simp only [List.map_cons, List.cons.injEq] at h
        have := ih b h.2
        unfold activeP at *
        by_cases hx : liveT x = true
        · have hy : liveT y = true := by unfold liveT at *; rw [← h.1]; exact hx
          rw [List.filter_cons_of_pos hx, List.filter_cons_of_pos hy]
          simp [this]
        · have hy : ¬ liveT y = true := by unfold liveT at *; rw [← h.1]; exact hx
          rw [List.filter_cons_of_neg hx, List.filter_cons_of_neg hy]
          exact this
  exact key _ _ he
theorem Cap10.put (h : Cap10 c S) (hp : ∀ t ∈ S.list, 1 ≤ t.num) (hn : (S.list.map (·.num)).Nodup) {k : Nat} {t : Tx10} (hk : S.list[k]? = some t) {H1 : List Hd} {L1 : List Nt} (others : List Nat) (out : Bool) (h9 : Inv9 c.reads L1) (hH : (H1.length : Int) ≤ c.locks) : Cap10 c (putP10 { S with H := H1, L := L1 } k others out).2 := by
  unfold putP10
  simp only
  split
  · exact h.abort hp hn hk h9 (by have := release_le H1 t.num; omega)
  · obtain ⟨f1, f2⟩ := flags_live out k others S.list
    refine ⟨by simp only [f1]; exact h.act, by simp only [f1, f2]; exact h.kept, h9.cap, hH, fun u hu => ?_⟩
    obtain ⟨o, u0, -, -, hu0, e1, e2, e3, e4, e5⟩ := flags_mem hu
    rw [e4]
    rcases h.need u0 hu0 with h1 | ⟨v, hv, h2, h3⟩
    · exact .inl h1
    · obtain ⟨v', hv', g1, g2, g3, g4, g5⟩ := flags_to (out := out) (k := k) (others := others) hv
      exact .inr ⟨v', hv', g4.trans h2, by rw [g3]; exact h3⟩
theorem Cap10.noted (h : Cap10 c S) (I : Inv10 c S vs rs now) {k : Nat} {t : Tx10} (hk : S.list[k]? = some t) (x : Rd) (lo hi : ByteArray) : Cap10 c (note10 c S k x lo hi).2 := by
  have h9 := (note_keeps I.n9 (numP S.list k) x).1
  unfold note10
  simp only
  split
  · exact h.abort I.pos I.nd hk h9 (by have := release_le S.H t.num; have := h.locks; omega)
  · exact h.put I.pos I.nd hk _ true h9 h.locks
theorem Cap10.read (h : Cap10 c S) (I : Inv10 c S vs rs now) {i : Nat} {r : Run10} (hi : rs[i]? = some r) (hr : r.over = false) (l : Lk) : Cap10 c (read10 c S r.tx l).2 := by
  obtain ⟨k, t, hu, hk, -⟩ := I.under hi hr
  unfold read10
  rw [hu]
  simp only
  split
  · exact h
  · exact h.noted I hk _ _ _
theorem Cap10.scan (h : Cap10 c S) (I : Inv10 c S vs rs now) {i : Nat} {r : Run10} (hi : rs[i]? = some r) (hr : r.over = false) (tb lo hi' : ByteArray) : Cap10 c (scan10 c S r.tx tb lo hi').2 := by
  obtain ⟨k, t, hu, hk, -⟩ := I.under hi hr
  unfold scan10
  rw [hu]
  simp only
  split
  · exact h
  · exact h.noted I hk _ _ _
theorem Cap10.write (h : Cap10 c S) (I : Inv10 c S vs rs now) {i : Nat} {r : Run10} (hi : rs[i]? = some r) (hr : r.over = false) (l : Lk) (last : Int) : Cap10 c (write10 c S r.tx l last).2 := by
  obtain ⟨k, t, hu, hk, -⟩ := I.under hi hr
  have htk := take_len r.tx (snapP S.list k) last l h.locks
  unfold write10
  rw [hu]
  simp only
  split
  · exact h
  · split
    · exact h
    · split
      · exact h.abort I.pos I.nd hk I.n9 (by have := release_le (takeP c.locks S.H r.tx (snapP S.list k) last l).2 t.num; omega)
      · split
        · exact h.abort I.pos I.nd hk I.n9 (by have := release_le (takeP c.locks S.H r.tx (snapP S.list k) last l).2 t.num; omega)
        · exact h.put I.pos I.nd hk _ false I.n9 htk
theorem Cap10.aborted (h : Cap10 c S) (I : Inv10 c S vs rs now) {i : Nat} {r : Run10} (hi : rs[i]? = some r) (hr : r.over = false) : Cap10 c (abort10 S r.tx).2 := by
  obtain ⟨k, t, hu, hk, -⟩ := I.under hi hr
  unfold abort10
  rw [hu]
  exact h.abort I.pos I.nd hk I.n9 (H1 := S.H) (L1 := S.L) (by have := release_le S.H t.num; have := h.locks; omega)
theorem Cap10.began (h : Cap10 c S) : Cap10 c (begin10 c S).2 := by
  unfold begin10
  split
  · exact h
  · rename_i hlt
    have ha : activeP (S.list ++ [(⟨S.next + 1, S.last, S.mom + 1, 0, false, false, []⟩ : Tx10)]) = activeP S.list + 1 := by
      unfold activeP
      rw [List.filter_append, List.length_append]
      simp [liveT]
    refine ⟨by simp only [ha]; omega, by simp only [ha, List.length_append, List.length_singleton]; have := h.kept; omega, h.reads, h.locks, fun t ht => ?_⟩
    rcases List.mem_append.1 ht with ht | ht
    · rcases h.need t ht with h1 | ⟨u, hu, h2⟩
      · exact .inl h1
      · exact .inr ⟨u, List.mem_append.2 (.inl hu), h2⟩
    · rw [List.mem_singleton.1 ht]; exact .inl rfl
theorem Cap10.committed (h : Cap10 c S) (I : Inv10 c S vs rs now) {i : Nat} {r : Run10} (hi : rs[i]? = some r) (hr : r.over = false) : Cap10 c (commit10 c S r.tx).2 := by
  obtain ⟨k, t, hu, hk, ht, ht0, -⟩ := I.under hi hr
  have ab := h.abort I.pos I.nd hk I.n9 (H1 := S.H) (L1 := S.L) (by have := release_le S.H t.num; have := h.locks; omega)
  have hrl : ∀ tx, ((releaseP S.H tx).length : Int) ≤ c.locks := fun tx => by have := release_le S.H tx; have := h.locks; omega
  unfold commit10
  rw [hu]
  simp only
  split
  · exact ab
  · split
    · exact ab
    · rename_i hnb hnf
      have hp := I.pos
      have hmm := I.mm
      obtain ⟨wr, hwr⟩ : ∃ w, heldP S.H r.tx = w := ⟨_, rfl⟩
      rw [hwr] at hnf ⊢
      obtain ⟨mat, hmat⟩ : ∃ m, (decide (wr ≠ []) || decide (ofP S.L r.tx ≠ [])) = m := ⟨_, rfl⟩
      rw [hmat] at hnf ⊢
      obtain ⟨last, hlast⟩ : ∃ x : Int, (if wr ≠ [] then S.last + 1 else S.last) = x := ⟨_, rfl⟩
      rw [hlast]
      by_cases hc : activeP S.list = 1 ∨ mat = false
      · rw [if_pos hc]
        have hpe : ∀ u ∈ ({ S with last := last, mom := S.mom + 1, H := releaseP S.H r.tx, list := (S.list.modify k fun t => { t with ended := S.mom + 1, wrote := wr }).eraseIdx k, L := dropN S.L r.tx } : St10).list, 1 ≤ u.num := fun u hu => hp u ((erase_modify_mem I.nd hk (f := fun t => { t with ended := S.mom + 1, wrote := wr }) rfl u).1 hu).1
        have A := sweep_is hpe
        have he : (S.list.modify k fun t => { t with ended := S.mom + 1, wrote := wr }).eraseIdx k = S.list.eraseIdx k := by
          refine List.ext_getElem? fun o => ?_
          rw [List.getElem?_eraseIdx, List.getElem?_eraseIdx, mod_get, mod_get]
          by_cases h1 : o < k
          · rw [if_pos h1, if_pos h1, if_neg (by omega)]
          · rw [if_neg h1, if_neg h1, if_neg (by omega)]
        have hs : (sweepP { S with last := last, mom := S.mom + 1, H := releaseP S.H r.tx, list := (S.list.modify k fun t => { t with ended := S.mom + 1, wrote := wr }).eraseIdx k, L := dropN S.L r.tx }).list.Sublist S.list := by
          refine A.sub.trans ?_
          simp only
          rw [he]
          exact List.eraseIdx_sublist ..
        obtain ⟨a1, a2⟩ := act_sub hs
        refine Cap10.mk' ?_ ?_ (A.keep _ (dropN_keeps I.n9 _)).cap (by rw [A.H]; exact hrl _) (sweep_need hpe)
        · have := h.act; simp only; omega
        · have := h.kn; simp only; omega
      · rw [if_neg hc]
        have hpe : ∀ u ∈ ({ S with last := last, mom := S.mom + 1, H := releaseP S.H r.tx, list := S.list.modify k fun t => { t with ended := S.mom + 1, wrote := wr } } : St10).list, 1 ≤ u.num := fun u hu => by
          rcases (modify_mem I.nd hk (f := fun t => { t with ended := S.mom + 1, wrote := wr }) u).1 hu with ⟨h1, -⟩ | rfl
          · exact hp u h1
          · exact hp t (List.mem_of_getElem? hk)
        have A := sweep_is hpe
        have hcount : ∀ (l : List Tx10) (k : Nat) (t : Tx10), l[k]? = some t → t.ended = 0 → activeP (l.modify k fun t => { t with ended := S.mom + 1, wrote := wr }) + 1 = activeP l ∧ keptN (l.modify k fun t => { t with ended := S.mom + 1, wrote := wr }) = keptN l + 1 := by
          intro l
          induction l with
          | nil => intro k t h1; simp at h1
          | cons x l ih =>
            intro k t h1 h2
            cases k with
            | zero =>
              have hx : x = t := by simpa using h1
              subst hx
              unfold activeP keptN
              rw [List.modify_zero_cons, List.filter_cons_of_neg (by simp [liveT]; omega), List.filter_cons_of_pos (by simp [liveT, h2]), List.filter_cons_of_pos (by simp [liveT]; omega), List.filter_cons_of_neg (by simp [liveT, h2])]
              simp
            | succ k =>
              obtain ⟨i1, i2⟩ := ih k t (by simpa using h1) h2
              unfold activeP keptN at *
              rw [List.modify_succ_cons]
              by_cases hx : liveT x = true <;> simp [hx] <;> omega
        obtain ⟨k1, k2⟩ := hcount S.list k t hk ht0
        obtain ⟨a1, a2⟩ := act_sub A.sub
        have hroom : (keptN S.list : Int) < c.kept := by
          have h1 := kept_is S.list
          simp only [not_or, Bool.not_eq_false] at hc
          simp only [Bool.and_eq_true, decide_eq_true_eq, not_and] at hnf
          have h2 : 1 ≤ activeP S.list := List.length_pos_of_mem (List.mem_filter.2 ⟨List.mem_of_getElem? hk, by simp [liveT, ht0]⟩)
          have := hnf ⟨by have := hc.1; omega, hc.2⟩
          omega
        refine Cap10.mk' ?_ ?_ (A.keep _ I.n9).cap (by rw [A.H]; exact hrl _) (sweep_need hpe)
        · have := h.act; simp only at a1 ⊢; omega
        · simp only at a2 ⊢; omega
/-- As many are under way as the statement counts. -/
def aliveN (rs : List Run10) : Nat := (rs.filter fun r => !r.over).length
def lockN (rs : List Run10) : Nat := ((rs.filter fun r => !r.over).map fun r => r.writes.length).sum
theorem Inv10.txs (h : Inv10 c S vs rs now) : (rs.map (·.tx)).Nodup := by
  refine List.pairwise_iff_getElem.2 fun i j hi hj hlt => ?_
  rw [List.getElem_map, List.getElem_map]
  have h1 := h.tx i _ (List.getElem?_eq_getElem (by simpa using hi))
  have h2 := h.tx j _ (List.getElem?_eq_getElem (by simpa using hj))
  omega
theorem Inv10.actives (h : Inv10 c S vs rs now) : activeP S.list = aliveN rs := by
  have hp : ((S.list.filter liveT).map (·.num)).Perm ((rs.filter fun r => !r.over).map (·.tx)) := by
    refine (List.perm_ext_iff_of_nodup (List.Nodup.sublist (List.filter_sublist.map _) h.nd) (List.Nodup.sublist (List.filter_sublist.map _) h.txs)).2 fun x => ?_
    simp only [List.mem_map, List.mem_filter]
    constructor
    · rintro ⟨t, ⟨ht, hl⟩, rfl⟩
      obtain ⟨i, r, hi, e, -, -, -, -, h1, -⟩ := h.tr t ht
      have := (h1 (by simpa [liveT] using hl)).1
      exact ⟨r, ⟨List.mem_of_getElem? hi, by simp [this]⟩, by rw [h.tx i r hi, e]⟩
    · rintro ⟨r, ⟨hr, ho⟩, rfl⟩
      obtain ⟨i, hi⟩ := List.mem_iff_getElem?.1 hr
      obtain ⟨t, ht, e, e0⟩ := h.al i r hi (by simpa using ho)
      exact ⟨t, ⟨ht, by simp [liveT, e0]⟩, by rw [h.tx i r hi, e]⟩
  have := hp.length_eq
  simpa [activeP, aliveN] using this
theorem Inv10.held (h : Inv10 c S vs rs now) : S.H.length = lockN rs := by
  have hon := h.on
  have hnd : S.H.Nodup := by
    unfold Once at hon
    exact List.Pairwise.of_map _ (fun a b e1 e2 => e1 (by rw [e2])) hon
  have hp : S.H.Perm ((rs.filter fun r => !r.over).flatMap fun r => r.writes.map fun l => (l, r.tx)) := by
    refine (List.perm_ext_iff_of_nodup hnd ?_).2 fun x => ?_
    · refine List.pairwise_flatMap.2 ⟨fun r hr => ?_, ?_⟩
      · obtain ⟨i, hi⟩ := List.mem_iff_getElem?.1 (List.mem_filter.1 hr).1
        refine List.Pairwise.map _ (fun a b e1 e2 => e1 (by simpa using e2)) (h.la i r hi).2.2.2.2
      · have h1 : ((rs.filter fun r => !r.over).map (·.tx)).Nodup := List.Nodup.sublist (List.filter_sublist.map _) h.txs
        refine List.Pairwise.imp ?_ (List.pairwise_map.1 h1)
        intro a b hab x hx y hy e
        obtain ⟨l1, -, rfl⟩ := List.mem_map.1 hx
        obtain ⟨l2, -, rfl⟩ := List.mem_map.1 hy
        exact hab (Prod.ext_iff.1 e).2
    · obtain ⟨l, y⟩ := x
      rw [h.hs]
      simp only [List.mem_flatMap, List.mem_filter, List.mem_map, Prod.mk.injEq]
      constructor
      · rintro ⟨i, r, e, hi, ho, hl⟩
        exact ⟨r, ⟨List.mem_of_getElem? hi, by simp [ho]⟩, l, hl, rfl, by rw [h.tx i r hi, e]⟩
      · rintro ⟨r, ⟨hr, ho⟩, l', hl, rfl, rfl⟩
        obtain ⟨i, hi⟩ := List.mem_iff_getElem?.1 hr
        exact ⟨i, r, h.tx i r hi, hi, by simpa using ho, hl⟩
  have := hp.length_eq
  rw [this]
  unfold lockN
  rw [List.length_flatMap]
  congr 1
  refine List.map_congr_left fun r _ => ?_
  rw [List.length_map]
/-- When none is under way, nothing is held. -/
theorem Inv10.idle (h : Inv10 c S vs rs now) (hc : Cap10 c S) (ha : ∀ r ∈ rs, r.over = true) : S.list = [] ∧ S.L = [] ∧ S.H = [] := by
  have hno : ∀ t ∈ S.list, t.ended ≠ 0 := fun t ht e => by
    obtain ⟨i, r, hi, -, -, -, -, -, h1, -⟩ := h.tr t ht
    have h2 := (h1 e).1
    have h3 := ha r (List.mem_of_getElem? hi)
    rw [h2] at h3; cases h3
  have hl : S.list = [] := by
    cases hS : S.list with
    | nil => rfl
    | cons t l =>
      have ht : t ∈ S.list := by rw [hS]; exact List.mem_cons_self ..
      rcases hc.need t ht with h1 | ⟨u, hu, h1, -⟩
      · exact absurd h1 (hno t ht)
      · exact absurd h1 (hno u hu)
  refine ⟨hl, ?_, ?_⟩
  · cases hS : S.L with
    | nil => rfl
    | cons n l =>
      obtain ⟨t, ht, -⟩ := h.no n (by rw [hS]; exact List.mem_cons_self ..)
      rw [hl] at ht; cases ht
  · cases hS : S.H with
    | nil => rfl
    | cons x l =>
      obtain ⟨a, b⟩ := x
      obtain ⟨i, r, -, hi, ho, -⟩ := (h.hs a b).1 (by rw [hS]; exact List.mem_cons_self ..)
      have := ha r (List.mem_of_getElem? hi)
      rw [ho] at this; cases this
end
end Go.Proofs.YtknppiebncdjmaaGreat

/- Layer 10, plain lists: what is refused leaves the others' flags; one behind the other; without reads. -/
namespace Go.Proofs.YtknppiebncdjmaaGreat
set_option maxRecDepth 100000
set_option maxRecDepth 100000

theorem under_is {l : List Tx10} (hn : (l.map (·.num)).Nodup) {k : Nat} {t : Tx10} (hk : l[k]? = some t) (h0 : t.ended = 0) : underP l t.num = some k := by
  cases hu : underP l t.num with
  | none =>
    unfold underP at hu
    have := List.findIdx?_eq_none_iff.1 hu t (List.mem_of_getElem? hk)
    simp [liveT, h0] at this
  | some k2 =>
    unfold underP at hu
    obtain ⟨hk2, h1, -⟩ := List.findIdx?_eq_some_iff_getElem.1 hu
    simp only [Bool.and_eq_true, decide_eq_true_eq] at h1
    rw [idx_inj hn (List.getElem?_eq_getElem hk2) hk h1.1]
theorem under_none {l : List Tx10} {tx : Int} (h : ∀ t ∈ l, t.num = tx → t.ended ≠ 0) : underP l tx = none := by
  unfold underP
  rw [List.findIdx?_eq_none_iff]
  intro t ht
  by_cases e : t.num = tx
  · have := h t ht e; simp [liveT, this]
  · simp [e]
/-- What is asked of one who is under way. -/
theorem of_is10 {S : St10} (hn : (S.list.map (·.num)).Nodup) {t : Tx10} (ht : t ∈ S.list) (h0 : t.ended = 0) : of10 S t.num = (t.snap, (t.fin, t.fout), 0) := by
  obtain ⟨k, hk⟩ := List.mem_iff_getElem?.1 ht
  unfold of10
  rw [under_is hn hk h0]
  simp only [snapP_at hk, hk, Option.elim_some]
section
variable {c : Cp10} {S : St10} {vs : List Ver10} {rs : List Run10} {now : Int}
theorem Inv10.of_over (h : Inv10 c S vs rs now) {i : Nat} {r : Run10} (hi : rs[i]? = some r) (hr : r.over = true) : of10 S r.tx = (0, (false, false), 101) := by
  unfold of10
  rw [under_none fun t ht e e0 => ?_]
  obtain ⟨j, q, hj, e2, -, -, -, -, h1, -⟩ := h.tr t ht
  have : j = i := by have := h.tx i r hi; omega
  subst this
  rw [hi] at hj; cases hj
  have := (h1 e0).1
  rw [hr] at this; cases this
theorem Inv10.of_alive (h : Inv10 c S vs rs now) {i : Nat} {r : Run10} (hi : rs[i]? = some r) (hr : r.over = false) : ∃ t ∈ S.list, t.num = r.tx ∧ t.ended = 0 ∧ of10 S r.tx = (r.snap, (t.fin, t.fout), 0) := by
  obtain ⟨k, t, -, hk, e, e0, es⟩ := h.under hi hr
  have htx := h.tx i r hi
  have hm := List.mem_of_getElem? hk
  refine ⟨t, hm, e.trans htx.symm, e0, ?_⟩
  have := of_is10 h.nd hm e0
  rw [e, ← htx] at this
  rw [this, es]
/-- An abort changes no other one's record. -/
theorem abort_same {S : St10} (hp : ∀ t ∈ S.list, 1 ≤ t.num) (hn : (S.list.map (·.num)).Nodup) {k : Nat} {t : Tx10} (hk : S.list[k]? = some t) {H1 : List Hd} {L1 : List Nt} {u : Tx10} (hu : u ∈ S.list) (hne : u.num ≠ t.num) (h0 : u.ended = 0) : of10 (abortP { S with H := H1, L := L1 } k) u.num = of10 S u.num := by
  have A := abort_is (S := { S with H := H1, L := L1 }) hp hn hk
  rw [of_is10 (List.Nodup.sublist (A.sub.map _) hn) ((A.mem u).2 ⟨hu, hne, .inl h0⟩) h0, of_is10 hn hu h0]
theorem put_err {S : St10} {k : Nat} {others : List Nat} {out : Bool} (h : (putP10 S k others out).1 ≠ 0) : (putP10 S k others out).2 = abortP S k := by
  unfold putP10 at *
  simp only at *
  split
  · rfl
  · rename_i hb
    rw [if_neg hb] at h
    exact absurd rfl h
theorem note_err {c : Cp10} {S : St10} {k : Nat} {x : Rd} {lo hi : ByteArray} (h : (note10 c S k x lo hi).1 ≠ 0) : ∃ L1, (note10 c S k x lo hi).2 = abortP { S with L := L1 } k := by
  unfold note10 at *
  simp only at *
  split
  · exact ⟨_, rfl⟩
  · rename_i hb
    rw [if_neg hb] at h
    exact ⟨_, put_err h⟩
theorem read_err {c : Cp10} {S : St10} {tx : Int} {l : Lk} {k : Nat} (hu : underP S.list tx = some k) (h : (read10 c S tx l).1 ≠ 0) : ∃ H1 L1, (read10 c S tx l).2 = abortP { S with H := H1, L := L1 } k := by
  unfold read10 at *
  rw [hu] at h ⊢
  simp only at *
  split
  · rename_i hh
    rw [if_pos hh] at h
    exact absurd rfl h
  · rename_i hh
    rw [if_neg hh] at h
    obtain ⟨L1, e⟩ := note_err h
    exact ⟨S.H, L1, e⟩
theorem scan_err {c : Cp10} {S : St10} {tx : Int} {tb lo hi : ByteArray} {k : Nat} (hu : underP S.list tx = some k) (h : (scan10 c S tx tb lo hi).1 ≠ 0) : ∃ H1 L1, (scan10 c S tx tb lo hi).2 = abortP { S with H := H1, L := L1 } k := by
  unfold scan10 at *
  rw [hu] at h ⊢
  simp only at *
  split
  · rename_i hh
    rw [if_pos hh] at h
    exact absurd rfl h
  · rename_i hh
    rw [if_neg hh] at h
    obtain ⟨L1, e⟩ := note_err h
    exact ⟨S.H, L1, e⟩
theorem write_err {c : Cp10} {S : St10} {tx last : Int} {l : Lk} {k : Nat} (hu : underP S.list tx = some k) (hl : 0 ≤ last) (h : (write10 c S tx l last).1 ≠ 0) : ∃ H1 L1, (write10 c S tx l last).2 = abortP { S with H := H1, L := L1 } k := by
  unfold write10 at *
  rw [hu] at h ⊢
  simp only at *
  rw [if_neg (by omega)] at h ⊢
  by_cases h1 : holderP S.H l = some tx
  · rw [if_pos h1] at h; exact absurd rfl h
  · rw [if_neg h1] at h ⊢
    by_cases h2 : (takeP c.locks S.H tx (snapP S.list k) last l).1 ≠ 0
    · rw [if_pos h2]; exact ⟨_, S.L, rfl⟩
    · rw [if_neg h2] at h ⊢
      by_cases h3 : takenP S.list k l = true
      · rw [if_pos h3]; exact ⟨_, S.L, rfl⟩
      · rw [if_neg h3] at h ⊢
        exact ⟨_, S.L, put_err h⟩
/-- At most one is under way, and nobody is kept. -/
def Al10 (S : St10) : Prop := S.list = [] ∨ ∃ t, S.list = [t] ∧ t.ended = 0 ∧ t.fin = false ∧ t.fout = false ∧ t.snap = S.last
theorem abort_one {S : St10} {t : Tx10} (h : S.list = [t]) {H1 : List Hd} {L1 : List Nt} : (abortP { S with H := H1, L := L1 } 0).list = [] := by
  unfold abortP
  simp [h, sweepP]
theorem conc_one (t : Tx10) (o : Nat) : concP [t] 0 o = false := by
  unfold concP
  cases o with
  | zero => simp
  | succ o => simp
theorem put_one {S : St10} {t : Tx10} (h : S.list = [t]) (h1 : t.fin = false) (out : Bool) : putP10 S 0 [] out = (0, S) := by
  unfold putP10 badP bothP
  simp [h, h1]
  rw [← h]
theorem note_one10 {c : Cp10} {S : St10} {t : Tx10} (h : S.list = [t]) (h1 : t.fin = false) (ht : 1 ≤ t.num) {x : Rd} (hx : mayP x = true) (lo hi : ByteArray) :
    ((note10 c S 0 x lo hi).1 = 0 ∧ (note10 c S 0 x lo hi).2.list = S.list ∧ (note10 c S 0 x lo hi).2.last = S.last) ∨ ((note10 c S 0 x lo hi).1 = 4 ∧ (note10 c S 0 x lo hi).2.list = []) := by
  have hans : (noteP c.reads S.L (numP S.list 0) x).1 = 0 ∨ (noteP c.reads S.L (numP S.list 0) x).1 = 4 := by
    unfold noteP
    have : ¬ (numP S.list 0 < 1 ∨ mayP x = false) := by
      rw [hx, numP_at (t := t) (by rw [h]; rfl)]; simp; omega
    rw [if_neg this]
    split
    · exact .inl rfl
    · cases shrinkP c.reads (S.L.length + 1) (addP S.L (numP S.list 0) x) with
      | none => exact .inr rfl
      | some M => exact .inl rfl
  unfold note10
  simp only
  rcases hans with e | e
  · left
    rw [e, if_neg (by simp)]
    have hw : writersP { S with L := (noteP c.reads S.L (numP S.list 0) x).2 } 0 x.tb lo hi = [] := by
      unfold writersP
      rw [List.filter_eq_nil_iff]
      intro o _
      simp only [h, conc_one]
      simp
    rw [hw, put_one (S := { S with L := (noteP c.reads S.L (numP S.list 0) x).2 }) h h1]
    exact ⟨rfl, rfl, rfl⟩
  · right
    rw [e, if_pos (by simp)]
    exact ⟨rfl, abort_one (H1 := S.H) h⟩
theorem Al10.read (a : Al10 S) (h : Inv10 c S vs rs now) {i : Nat} {r : Run10} (hi : rs[i]? = some r) (hr : r.over = false) (l : Lk) :
    ((read10 c S r.tx l).1 = 0 ∨ (read10 c S r.tx l).1 = 4) ∧ Al10 (read10 c S r.tx l).2 := by
  obtain ⟨k, t, hu, hk, ht, -⟩ := h.under hi hr
  rcases a with e | ⟨t', e, e0, e1, e2, e3⟩
  · rw [e] at hk; simp at hk
  · obtain rfl : k = 0 := by have := (List.getElem?_eq_some_iff.1 hk).1; rw [e] at this; simpa using this
    obtain rfl : t' = t := by rw [e] at hk; simpa using hk
    unfold read10
    rw [hu]
    simp only
    split
    · exact ⟨.inl rfl, .inr ⟨t', e, e0, e1, e2, e3⟩⟩
    · rcases note_one10 (c := c) e e1 (by omega) (x := ⟨l.1, 1, l.2, ⟨#[]⟩⟩) (by rw [may_1]; simp [ByteArray.toList_eq]) l.2 (l.2 ++ ⟨#[0]⟩) with ⟨h1, h2, h3⟩ | ⟨h1, h2⟩
      · exact ⟨.inl h1, .inr ⟨t', h2.trans e, e0, e1, e2, e3.trans h3.symm⟩⟩
      · exact ⟨.inr h1, .inl h2⟩
theorem Al10.scan (a : Al10 S) (h : Inv10 c S vs rs now) {i : Nat} {r : Run10} (hi : rs[i]? = some r) (hr : r.over = false) (tb lo hi' : ByteArray) :
    ((scan10 c S r.tx tb lo hi').1 = 0 ∨ (scan10 c S r.tx tb lo hi').1 = 4) ∧ Al10 (scan10 c S r.tx tb lo hi').2 := by
  obtain ⟨k, t, hu, hk, ht, -⟩ := h.under hi hr
  rcases a with e | ⟨t', e, e0, e1, e2, e3⟩
  · rw [e] at hk; simp at hk
  · obtain rfl : k = 0 := by have := (List.getElem?_eq_some_iff.1 hk).1; rw [e] at this; simpa using this
    obtain rfl : t' = t := by rw [e] at hk; simpa using hk
    unfold scan10
    rw [hu]
    simp only
    split
    · exact ⟨.inl rfl, .inr ⟨t', e, e0, e1, e2, e3⟩⟩
    · rename_i hh
      have hm : mayP ⟨tb, 2, lo, hi'⟩ = true := by
        unfold mayP
        rw [if_neg (show ¬ (2 : Int) = 1 by decide), if_pos (show (2 : Int) = 2 from rfl)]
        simp only [Bool.and_eq_true, Bool.not_eq_true', not_and, Bool.not_eq_false] at hh
        rw [Bool.or_eq_true]
        cases hE : hi'.toList == [] with
        | true => exact .inl hE
        | false => exact .inr (hh hE)
      rcases note_one10 (c := c) e e1 (by omega) hm lo hi' with ⟨h1, h2, h3⟩ | ⟨h1, h2⟩
      · exact ⟨.inl h1, .inr ⟨t', h2.trans e, e0, e1, e2, e3.trans h3.symm⟩⟩
      · exact ⟨.inr h1, .inl h2⟩
theorem Al10.write (a : Al10 S) (h : Inv10 c S vs rs now) {i : Nat} {r : Run10} (hi : rs[i]? = some r) (hr : r.over = false) (l : Lk) (last : Int) (hl0 : 0 ≤ last) (hl1 : last ≤ S.last) :
    ((write10 c S r.tx l last).1 = 0 ∨ (write10 c S r.tx l last).1 = 4) ∧ Al10 (write10 c S r.tx l last).2 := by
  obtain ⟨k, t, hu, hk, ht, -⟩ := h.under hi hr
  have htx := h.tx i r hi
  rcases a with e | ⟨t', e, e0, e1, e2, e3⟩
  · rw [e] at hk; simp at hk
  · obtain rfl : k = 0 := by have := (List.getElem?_eq_some_iff.1 hk).1; rw [e] at this; simpa using this
    obtain rfl : t' = t := by rw [e] at hk; simpa using hk
    have hlc := h.lc
    unfold write10
    rw [hu]
    simp only
    rw [if_neg (by omega), snapP_at hk, e3]
    by_cases hh : holderP S.H l = some r.tx
    · rw [if_pos hh]; exact ⟨.inl rfl, .inr ⟨t', e, e0, e1, e2, e3⟩⟩
    · rw [if_neg hh]
      have hno : holderP S.H l = none := by
        cases hx : holderP S.H l with
        | none => rfl
        | some x =>
          obtain ⟨j, q, ex, hj, ho, -⟩ := (h.hs l x).1 ((holder_some h.on).1 hx)
          obtain ⟨u, hu2, eu, -⟩ := h.al j q hj ho
          rw [e, List.mem_singleton] at hu2
          subst hu2
          exact absurd (by rw [hx, ex, htx, ← eu, ht]) hh
      have htk : takeP c.locks S.H r.tx S.last last l = if c.locks ≤ S.H.length then (4, S.H) else (0, S.H ++ [(l, r.tx)]) := by
        unfold takeP
        rw [if_neg (by omega), hno]
        simp only
        rw [if_neg (by omega)]
      rw [htk]
      by_cases hf : c.locks ≤ (S.H.length : Int)
      · rw [if_pos hf]
        simp only
        rw [if_pos (by simp)]
        exact ⟨.inr rfl, .inl (abort_one (L1 := S.L) e)⟩
      · rw [if_neg hf]
        simp only
        rw [if_neg (by simp)]
        have h1 : takenP S.list 0 l = false := by
          unfold takenP
          rw [List.any_eq_false]
          intro o _
          rw [e]
          cases ho : ([t'] : List Tx10)[o]? with
          | none => simp
          | some u => simp [conc_one]
        rw [h1, if_neg (by simp)]
        have h2 : readersP { S with H := S.H ++ [(l, r.tx)] } 0 l = [] := by
          unfold readersP
          rw [List.filter_eq_nil_iff]
          intro o _
          simp only [e, conc_one]
          simp
        rw [h2, put_one (S := { S with H := S.H ++ [(l, r.tx)] }) e e1]
        exact ⟨.inl rfl, .inr ⟨t', e, e0, e1, e2, e3⟩⟩
theorem Al10.committed (a : Al10 S) (h : Inv10 c S vs rs now) {i : Nat} {r : Run10} (hi : rs[i]? = some r) (hr : r.over = false) : (commit10 c S r.tx).1.2 = 0 ∧ (commit10 c S r.tx).2.list = [] := by
  obtain ⟨k, t, hu, hk, ht, -⟩ := h.under hi hr
  rcases a with e | ⟨t', e, e0, e1, e2, e3⟩
  · rw [e] at hk; simp at hk
  · obtain rfl : k = 0 := by have := (List.getElem?_eq_some_iff.1 hk).1; rw [e] at this; simpa using this
    obtain rfl : t' = t := by rw [e] at hk; simpa using hk
    have ha : activeP S.list = 1 := by rw [e]; simp [activeP, liveT, e0]
    unfold commit10
    rw [hu]
    simp only
    have hb : bothP S.list 0 = false := by unfold bothP; rw [e]; simp [e1]
    rw [hb, if_neg (by simp), ha]
    simp only [Nat.lt_irrefl, decide_false, Bool.false_and, Bool.false_eq_true, if_false, true_or, if_true]
    refine ⟨trivial, ?_⟩
    simp [sweepP, e]
theorem Al10.aborted (a : Al10 S) (h : Inv10 c S vs rs now) {i : Nat} {r : Run10} (hi : rs[i]? = some r) (hr : r.over = false) : (abort10 S r.tx).2.list = [] := by
  obtain ⟨k, t, hu, hk, ht, -⟩ := h.under hi hr
  rcases a with e | ⟨t', e, -⟩
  · rw [e] at hk; simp at hk
  · obtain rfl : k = 0 := by have := (List.getElem?_eq_some_iff.1 hk).1; rw [e] at this; simpa using this
    unfold abort10
    rw [hu]
    exact abort_one (H1 := S.H) (L1 := S.L) e
theorem Al10.began (h : S.list = []) (hc : 1 ≤ c.act) : (begin10 c S).1.2.2 = 0 ∧ Al10 (begin10 c S).2 := by
  unfold begin10
  have ha : activeP S.list = 0 := by rw [h]; rfl
  rw [if_neg (by rw [ha]; omega)]
  exact ⟨rfl, .inr ⟨_, by rw [h]; rfl, rfl, rfl, rfl, rfl⟩⟩
/-- Nobody has read anything. -/
def Nr10 (S : St10) : Prop := S.L = [] ∧ ∀ t ∈ S.list, t.fin = false ∧ t.fout = false
theorem sweep_nil {S : St10} (h : S.L = []) : (sweepP S).L = [] := by
  unfold sweepP
  simp only [h]
  have : ∀ ts : List Tx10, ts.foldl (fun L t => dropN L t.num) ([] : List Nt) = [] := by
    intro ts
    induction ts with
    | nil => rfl
    | cons t ts ih => rw [List.foldl_cons]; have : dropN [] t.num = [] := by unfold dropN dropP; split <;> rfl
                      rw [this]; exact ih
  exact this _
theorem Nr10.sweep {S : St10} (h : Nr10 S) : Nr10 (sweepP S) := ⟨sweep_nil h.1, fun t ht => h.2 t (List.mem_filter.1 ht).1⟩
theorem Nr10.abort (h : Nr10 S) (k : Nat) (H1 : List Hd) : Nr10 (abortP { S with H := H1 } k) := by
  unfold abortP
  simp only
  split
  · exact h
  · refine Nr10.sweep ⟨?_, fun t ht => h.2 t ((List.eraseIdx_sublist ..).mem ht)⟩
    simp only [h.1]
    unfold dropN dropP
    split <;> rfl
theorem Nr10.write (h : Nr10 S) (tx : Int) (l : Lk) (last : Int) : (write10 c S tx l last).1 ≠ 100 ∧ Nr10 (write10 c S tx l last).2 := by
  unfold write10
  split
  · exact ⟨by simp, h⟩
  · rename_i k hu
    split
    · exact ⟨by simp, h⟩
    · split
      · exact ⟨by simp, h⟩
      · have hans : (takeP c.locks S.H tx (snapP S.list k) last l).1 ≠ 100 := by
          unfold takeP
          split
          · simp
          · split
            · split <;> simp
            · split
              · simp
              · split <;> simp
        simp only
        split
        · exact ⟨hans, h.abort k _⟩
        · split
          · exact ⟨by simp, h.abort k _⟩
          · have hr : readersP { S with H := (takeP c.locks S.H tx (snapP S.list k) last l).2 } k l = [] := by
              unfold readersP
              rw [List.filter_eq_nil_iff]
              intro o _
              simp only [h.1]
              have : ∀ f : Nt → Bool, txP [] f = [] := fun _ => rfl
              rw [this]
              simp
            rw [hr]
            unfold putP10 badP bothP
            simp only [List.foldl_nil, List.any_nil, Bool.or_false]
            have hb : (S.list[k]?).elim false (fun t => t.fin && t.fout) = false := by
              cases hk : S.list[k]? with
              | none => rfl
              | some t => simp [(h.2 t (List.mem_of_getElem? hk)).1]
            rw [hb]
            exact ⟨by simp, h⟩
theorem Nr10.committed (h : Nr10 S) (tx : Int) : (commit10 c S tx).1.2 ≠ 100 ∧ Nr10 (commit10 c S tx).2 := by
  unfold commit10
  split
  · exact ⟨by simp, h⟩
  · rename_i k hu
    have hb : bothP S.list k = false := by
      unfold bothP
      cases hk : S.list[k]? with
      | none => rfl
      | some t => simp [(h.2 t (List.mem_of_getElem? hk)).1]
    rw [hb, if_neg (by simp)]
    simp only
    have hmod : ∀ (f : Tx10 → Tx10), (∀ t, (f t).fin = t.fin ∧ (f t).fout = t.fout) → ∀ t ∈ S.list.modify k f, t.fin = false ∧ t.fout = false := fun f hf t ht => by
      obtain ⟨o, ho⟩ := List.mem_iff_getElem?.1 ht
      rw [mod_get] at ho
      split at ho
      · cases hu2 : S.list[o]? with
        | none => rw [hu2] at ho; cases ho
        | some u =>
          rw [hu2] at ho
          simp only [Option.map_some, Option.some.injEq] at ho
          rw [← ho, (hf u).1, (hf u).2]
          exact h.2 u (List.mem_of_getElem? hu2)
      · exact h.2 t (List.mem_of_getElem? ho)
    split
    · exact ⟨by simp, h.abort k S.H⟩
    · refine ⟨by simp, Nr10.sweep ?_⟩
      split
      · refine ⟨?_, fun t ht => hmod (fun t => { t with ended := S.mom + 1, wrote := heldP S.H tx }) (fun _ => ⟨rfl, rfl⟩) t ((List.eraseIdx_sublist ..).mem ht)⟩
        simp only [h.1]
        unfold dropN dropP
        split <;> rfl
      · exact ⟨h.1, fun t ht => hmod (fun t => { t with ended := S.mom + 1, wrote := heldP S.H tx }) (fun _ => ⟨rfl, rfl⟩) t ht⟩
theorem Nr10.aborted (h : Nr10 S) (tx : Int) : (abort10 S tx).1 ≠ 100 ∧ Nr10 (abort10 S tx).2 := by
  unfold abort10
  split
  · exact ⟨by simp, h⟩
  · exact ⟨by simp, h.abort _ S.H⟩
theorem Nr10.began (h : Nr10 S) : (begin10 c S).1.2.2 ≠ 100 ∧ Nr10 (begin10 c S).2 := by
  unfold begin10
  split
  · exact ⟨by simp, h⟩
  · refine ⟨by simp, h.1, fun t ht => ?_⟩
    rcases List.mem_append.1 ht with ht | ht
    · exact h.2 t ht
    · rw [List.mem_singleton.1 ht]; exact ⟨rfl, rfl⟩
end
end Go.Proofs.YtknppiebncdjmaaGreat
