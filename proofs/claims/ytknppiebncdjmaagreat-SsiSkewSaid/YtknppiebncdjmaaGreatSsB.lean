/- Layer 10, plain lists: what is tracked stays within the caps, and is what is under way; what is refused changes no other one's flags. -/
import Derived.Test.YtknppiebncdjmaaGreatJAK
set_option linter.unusedVariables false
namespace Go.Proofs.YtknppiebncdjmaaGreat
set_option maxRecDepth 100000

structure Cap10 (c : Cp10) (S : St10) : Prop where
  act : (activeP S.list : Int) ≤ c.act
  kept : (S.list.length : Int) - activeP S.list ≤ c.kept
  reads : S.L.length ≤ c.reads
  locks : (S.H.length : Int) ≤ c.locks
  need : ∀ t ∈ S.list, t.ended = 0 ∨ ∃ u ∈ S.list, u.ended = 0 ∧ u.begun < t.ended
def keptN (l : List Tx10) : Nat := (l.filter fun t => !liveT t).length
theorem kept_is (l : List Tx10) : activeP l + keptN l = l.length := by
  unfold activeP keptN
  induction l with
  | nil => rfl
  | cons t l ih => cases h : liveT t <;> simp [h] <;> omega
theorem Cap10.kn {c : Cp10} {S : St10} (h : Cap10 c S) : (keptN S.list : Int) ≤ c.kept := by
  have := kept_is S.list
  have := h.kept
  omega
theorem act_sub {l l' : List Tx10} (h : l'.Sublist l) : activeP l' ≤ activeP l ∧ keptN l' ≤ keptN l := ⟨(h.filter _).length_le, (h.filter _).length_le⟩
theorem Cap10.mk' {c : Cp10} {S : St10} (h1 : (activeP S.list : Int) ≤ c.act) (h2 : (keptN S.list : Int) ≤ c.kept) (h3 : S.L.length ≤ c.reads) (h4 : (S.H.length : Int) ≤ c.locks) (h5 : ∀ t ∈ S.list, t.ended = 0 ∨ ∃ u ∈ S.list, u.ended = 0 ∧ u.begun < t.ended) : Cap10 c S :=
  ⟨h1, by have := kept_is S.list; omega, h3, h4, h5⟩
section
variable {c : Cp10} {S : St10} {vs : List Ver10} {rs : List Run10} {now : Int}
theorem sweep_need {S : St10} (h : ∀ t ∈ S.list, 1 ≤ t.num) : ∀ t ∈ (sweepP S).list, t.ended = 0 ∨ ∃ u ∈ (sweepP S).list, u.ended = 0 ∧ u.begun < t.ended := fun t ht => by
  have A := sweep_is h
  rcases ((A.mem t).1 ht).2 with h1 | ⟨u, hu, e, hlt⟩
  · exact .inl h1
  · exact .inr ⟨u, (A.mem u).2 ⟨hu, .inl e⟩, e, hlt⟩
theorem release_le (H : List Hd) (t : Int) : (releaseP H t).length ≤ H.length := List.length_filter_le _ _
theorem Cap10.abort (h : Cap10 c S) (hp : ∀ t ∈ S.list, 1 ≤ t.num) (hn : (S.list.map (·.num)).Nodup) {k : Nat} {t : Tx10} (hk : S.list[k]? = some t) {H1 : List Hd} {L1 : List Nt} (h9 : Inv9 c.reads L1) (hH : ((releaseP H1 t.num).length : Int) ≤ c.locks) : Cap10 c (abortP { S with H := H1, L := L1 } k) := by
  have hS : abortP { S with H := H1, L := L1 } k = sweepP { S with list := S.list.eraseIdx k, H := releaseP H1 t.num, L := dropN L1 t.num } := by
    unfold abortP
    simp only
    rw [hk]
  have hpe : ∀ u ∈ ({ S with list := S.list.eraseIdx k, H := releaseP H1 t.num, L := dropN L1 t.num } : St10).list, 1 ≤ u.num := fun u hu => hp u ((erase_mem hn hk u).1 hu).1
  have A := sweep_is hpe
  rw [hS]
  have hs : (sweepP { S with list := S.list.eraseIdx k, H := releaseP H1 t.num, L := dropN L1 t.num }).list.Sublist S.list := A.sub.trans (List.eraseIdx_sublist ..)
  obtain ⟨a1, a2⟩ := act_sub hs
  refine Cap10.mk' ?_ ?_ (A.keep _ (dropN_keeps h9 _)).cap (by rw [A.H]; exact hH) (sweep_need hpe)
  · have := h.act; omega
  · have := h.kn; omega
theorem flags_live (out : Bool) (k : Nat) (others : List Nat) (l : List Tx10) : activeP (others.foldl (flagP out k) l) = activeP l ∧ (others.foldl (flagP out k) l).length = l.length := by
  have hl : (others.foldl (flagP out k) l).map (·.num) = l.map (·.num) := flags_nums out k others l
  have he : (others.foldl (flagP out k) l).map (·.ended) = l.map (·.ended) := by
    refine List.ext_getElem? fun o => ?_
    rw [List.getElem?_map, List.getElem?_map, flags_get, Option.map_map]
    congr 1
    funext t
    exact (flagT_same out k others o t).2.2.2.1
  refine ⟨?_, by simpa using congrArg List.length hl⟩
  have key : ∀ a b : List Tx10, a.map (·.ended) = b.map (·.ended) → activeP a = activeP b := by
    intro a
    induction a with
    | nil => intro b h; cases b with
      | nil => rfl
      | cons => simp at h
    | cons x a ih =>
      intro b h
      cases b with
      | nil => simp at h
      | cons y b =>
        simp only [List.map_cons, List.cons.injEq] at h
        have := ih b h.2
        unfold activeP at *
        by_cases hx : liveT x = true
        · have hy : liveT y = true := by unfold liveT at *; rw [← h.1]; exact hx
          rw [List.filter_cons_of_pos hx, List.filter_cons_of_pos hy]
          simp [this]
        · have hy : ¬ liveT y = true := by unfold liveT at *; rw [← h.1]; exact hx
          rw [List.filter_cons_of_neg hx, List.filter_cons_of_neg hy]
          exact this
  exact key _ _ he
theorem Cap10.put (h : Cap10 c S) (hp : ∀ t ∈ S.list, 1 ≤ t.num) (hn : (S.list.map (·.num)).Nodup) {k : Nat} {t : Tx10} (hk : S.list[k]? = some t) {H1 : List Hd} {L1 : List Nt} (others : List Nat) (out : Bool) (h9 : Inv9 c.reads L1) (hH : (H1.length : Int) ≤ c.locks) : Cap10 c (putP10 { S with H := H1, L := L1 } k others out).2 := by
  unfold putP10
  simp only
  split
  · exact h.abort hp hn hk h9 (by have := release_le H1 t.num; omega)
  · obtain ⟨f1, f2⟩ := flags_live out k others S.list
    refine ⟨by simp only [f1]; exact h.act, by simp only [f1, f2]; exact h.kept, h9.cap, hH, fun u hu => ?_⟩
    obtain ⟨o, u0, -, -, hu0, e1, e2, e3, e4, e5⟩ := flags_mem hu
    rw [e4]
    rcases h.need u0 hu0 with h1 | ⟨v, hv, h2, h3⟩
    · exact .inl h1
    · obtain ⟨v', hv', g1, g2, g3, g4, g5⟩ := flags_to (out := out) (k := k) (others := others) hv
      exact .inr ⟨v', hv', g4.trans h2, by rw [g3]; exact h3⟩
theorem Cap10.noted (h : Cap10 c S) (I : Inv10 c S vs rs now) {k : Nat} {t : Tx10} (hk : S.list[k]? = some t) (x : Rd) (lo hi : ByteArray) : Cap10 c (note10 c S k x lo hi).2 := by
  have h9 := (note_keeps I.n9 (numP S.list k) x).1
  unfold note10
  simp only
  split
  · exact h.abort I.pos I.nd hk h9 (by have := release_le S.H t.num; have := h.locks; omega)
  · exact h.put I.pos I.nd hk _ true h9 h.locks
theorem Cap10.read (h : Cap10 c S) (I : Inv10 c S vs rs now) {i : Nat} {r : Run10} (hi : rs[i]? = some r) (hr : r.over = false) (l : Lk) : Cap10 c (read10 c S r.tx l).2 := by
  obtain ⟨k, t, hu, hk, -⟩ := I.under hi hr
  unfold read10
  rw [hu]
  simp only
  split
  · exact h
  · exact h.noted I hk _ _ _
theorem Cap10.scan (h : Cap10 c S) (I : Inv10 c S vs rs now) {i : Nat} {r : Run10} (hi : rs[i]? = some r) (hr : r.over = false) (tb lo hi' : ByteArray) : Cap10 c (scan10 c S r.tx tb lo hi').2 := by
  obtain ⟨k, t, hu, hk, -⟩ := I.under hi hr
  unfold scan10
  rw [hu]
  simp only
  split
  · exact h
  · exact h.noted I hk _ _ _
theorem Cap10.write (h : Cap10 c S) (I : Inv10 c S vs rs now) {i : Nat} {r : Run10} (hi : rs[i]? = some r) (hr : r.over = false) (l : Lk) (last : Int) : Cap10 c (write10 c S r.tx l last).2 := by
  obtain ⟨k, t, hu, hk, -⟩ := I.under hi hr
  have htk := take_len r.tx (snapP S.list k) last l h.locks
  unfold write10
  rw [hu]
  simp only
  split
  · exact h
  · split
    · exact h
    · split
      · exact h.abort I.pos I.nd hk I.n9 (by have := release_le (takeP c.locks S.H r.tx (snapP S.list k) last l).2 t.num; omega)
      · split
        · exact h.abort I.pos I.nd hk I.n9 (by have := release_le (takeP c.locks S.H r.tx (snapP S.list k) last l).2 t.num; omega)
        · exact h.put I.pos I.nd hk _ false I.n9 htk
theorem Cap10.aborted (h : Cap10 c S) (I : Inv10 c S vs rs now) {i : Nat} {r : Run10} (hi : rs[i]? = some r) (hr : r.over = false) : Cap10 c (abort10 S r.tx).2 := by
  obtain ⟨k, t, hu, hk, -⟩ := I.under hi hr
  unfold abort10
  rw [hu]
  exact h.abort I.pos I.nd hk I.n9 (H1 := S.H) (L1 := S.L) (by have := release_le S.H t.num; have := h.locks; omega)
theorem Cap10.began (h : Cap10 c S) : Cap10 c (begin10 c S).2 := by
  unfold begin10
  split
  · exact h
  · rename_i hlt
    have ha : activeP (S.list ++ [(⟨S.next + 1, S.last, S.mom + 1, 0, false, false, []⟩ : Tx10)]) = activeP S.list + 1 := by
      unfold activeP
      rw [List.filter_append, List.length_append]
      simp [liveT]
    refine ⟨by simp only [ha]; omega, by simp only [ha, List.length_append, List.length_singleton]; have := h.kept; omega, h.reads, h.locks, fun t ht => ?_⟩
    rcases List.mem_append.1 ht with ht | ht
    · rcases h.need t ht with h1 | ⟨u, hu, h2⟩
      · exact .inl h1
      · exact .inr ⟨u, List.mem_append.2 (.inl hu), h2⟩
    · rw [List.mem_singleton.1 ht]; exact .inl rfl
theorem Cap10.committed (h : Cap10 c S) (I : Inv10 c S vs rs now) {i : Nat} {r : Run10} (hi : rs[i]? = some r) (hr : r.over = false) : Cap10 c (commit10 c S r.tx).2 := by
  obtain ⟨k, t, hu, hk, ht, ht0, -⟩ := I.under hi hr
  have ab := h.abort I.pos I.nd hk I.n9 (H1 := S.H) (L1 := S.L) (by have := release_le S.H t.num; have := h.locks; omega)
  have hrl : ∀ tx, ((releaseP S.H tx).length : Int) ≤ c.locks := fun tx => by have := release_le S.H tx; have := h.locks; omega
  unfold commit10
  rw [hu]
  simp only
  split
  · exact ab
  · split
    · exact ab
    · rename_i hnb hnf
      have hp := I.pos
      have hmm := I.mm
      obtain ⟨wr, hwr⟩ : ∃ w, heldP S.H r.tx = w := ⟨_, rfl⟩
      rw [hwr] at hnf ⊢
      obtain ⟨mat, hmat⟩ : ∃ m, (decide (wr ≠ []) || decide (ofP S.L r.tx ≠ [])) = m := ⟨_, rfl⟩
      rw [hmat] at hnf ⊢
      obtain ⟨last, hlast⟩ : ∃ x : Int, (if wr ≠ [] then S.last + 1 else S.last) = x := ⟨_, rfl⟩
      rw [hlast]
      by_cases hc : activeP S.list = 1 ∨ mat = false
      · rw [if_pos hc]
        have hpe : ∀ u ∈ ({ S with last := last, mom := S.mom + 1, H := releaseP S.H r.tx, list := (S.list.modify k fun t => { t with ended := S.mom + 1, wrote := wr }).eraseIdx k, L := dropN S.L r.tx } : St10).list, 1 ≤ u.num := fun u hu => hp u ((erase_modify_mem I.nd hk (f := fun t => { t with ended := S.mom + 1, wrote := wr }) rfl u).1 hu).1
        have A := sweep_is hpe
        have he : (S.list.modify k fun t => { t with ended := S.mom + 1, wrote := wr }).eraseIdx k = S.list.eraseIdx k := by
          refine List.ext_getElem? fun o => ?_
          rw [List.getElem?_eraseIdx, List.getElem?_eraseIdx, mod_get, mod_get]
          by_cases h1 : o < k
          · rw [if_pos h1, if_pos h1, if_neg (by omega)]
          · rw [if_neg h1, if_neg h1, if_neg (by omega)]
        have hs : (sweepP { S with last := last, mom := S.mom + 1, H := releaseP S.H r.tx, list := (S.list.modify k fun t => { t with ended := S.mom + 1, wrote := wr }).eraseIdx k, L := dropN S.L r.tx }).list.Sublist S.list := by
          refine A.sub.trans ?_
          simp only
          rw [he]
          exact List.eraseIdx_sublist ..
        obtain ⟨a1, a2⟩ := act_sub hs
        refine Cap10.mk' ?_ ?_ (A.keep _ (dropN_keeps I.n9 _)).cap (by rw [A.H]; exact hrl _) (sweep_need hpe)
        · have := h.act; simp only; omega
        · have := h.kn; simp only; omega
      · rw [if_neg hc]
        have hpe : ∀ u ∈ ({ S with last := last, mom := S.mom + 1, H := releaseP S.H r.tx, list := S.list.modify k fun t => { t with ended := S.mom + 1, wrote := wr } } : St10).list, 1 ≤ u.num := fun u hu => by
          rcases (modify_mem I.nd hk (f := fun t => { t with ended := S.mom + 1, wrote := wr }) u).1 hu with ⟨h1, -⟩ | rfl
          · exact hp u h1
          · exact hp t (List.mem_of_getElem? hk)
        have A := sweep_is hpe
        have hcount : ∀ (l : List Tx10) (k : Nat) (t : Tx10), l[k]? = some t → t.ended = 0 → activeP (l.modify k fun t => { t with ended := S.mom + 1, wrote := wr }) + 1 = activeP l ∧ keptN (l.modify k fun t => { t with ended := S.mom + 1, wrote := wr }) = keptN l + 1 := by
          intro l
          induction l with
          | nil => intro k t h1; simp at h1
          | cons x l ih =>
            intro k t h1 h2
            cases k with
            | zero =>
              have hx : x = t := by simpa using h1
              subst hx
              unfold activeP keptN
              rw [List.modify_zero_cons, List.filter_cons_of_neg (by simp [liveT]; omega), List.filter_cons_of_pos (by simp [liveT, h2]), List.filter_cons_of_pos (by simp [liveT]; omega), List.filter_cons_of_neg (by simp [liveT, h2])]
              simp
            | succ k =>
              obtain ⟨i1, i2⟩ := ih k t (by simpa using h1) h2
              unfold activeP keptN at *
              rw [List.modify_succ_cons]
              by_cases hx : liveT x = true <;> simp [hx] <;> omega
        obtain ⟨k1, k2⟩ := hcount S.list k t hk ht0
        obtain ⟨a1, a2⟩ := act_sub A.sub
        have hroom : (keptN S.list : Int) < c.kept := by
          have h1 := kept_is S.list
          simp only [not_or, Bool.not_eq_false] at hc
          simp only [Bool.and_eq_true, decide_eq_true_eq, not_and] at hnf
          have h2 : 1 ≤ activeP S.list := List.length_pos_of_mem (List.mem_filter.2 ⟨List.mem_of_getElem? hk, by simp [liveT, ht0]⟩)
          have := hnf ⟨by have := hc.1; omega, hc.2⟩
          omega
        refine Cap10.mk' ?_ ?_ (A.keep _ I.n9).cap (by rw [A.H]; exact hrl _) (sweep_need hpe)
        · have := h.act; simp only at a1 ⊢; omega
        · simp only at a2 ⊢; omega
def aliveN (rs : List Run10) : Nat := (rs.filter fun r => !r.over).length
def lockN (rs : List Run10) : Nat := ((rs.filter fun r => !r.over).map fun r => r.writes.length).sum
theorem Inv10.txs (h : Inv10 c S vs rs now) : (rs.map (·.tx)).Nodup := by
  refine List.pairwise_iff_getElem.2 fun i j hi hj hlt => ?_
  rw [List.getElem_map, List.getElem_map]
  have h1 := h.tx i _ (List.getElem?_eq_getElem (by simpa using hi))
  have h2 := h.tx j _ (List.getElem?_eq_getElem (by simpa using hj))
  omega
theorem Inv10.actives (h : Inv10 c S vs rs now) : activeP S.list = aliveN rs := by
  have hp : ((S.list.filter liveT).map (·.num)).Perm ((rs.filter fun r => !r.over).map (·.tx)) := by
    refine (List.perm_ext_iff_of_nodup (List.Nodup.sublist (List.filter_sublist.map _) h.nd) (List.Nodup.sublist (List.filter_sublist.map _) h.txs)).2 fun x => ?_
    simp only [List.mem_map, List.mem_filter]
    constructor
    · rintro ⟨t, ⟨ht, hl⟩, rfl⟩
      obtain ⟨i, r, hi, e, -, -, -, -, h1, -⟩ := h.tr t ht
      have := (h1 (by simpa [liveT] using hl)).1
      exact ⟨r, ⟨List.mem_of_getElem? hi, by simp [this]⟩, by rw [h.tx i r hi, e]⟩
    · rintro ⟨r, ⟨hr, ho⟩, rfl⟩
      obtain ⟨i, hi⟩ := List.mem_iff_getElem?.1 hr
      obtain ⟨t, ht, e, e0⟩ := h.al i r hi (by simpa using ho)
      exact ⟨t, ⟨ht, by simp [liveT, e0]⟩, by rw [h.tx i r hi, e]⟩
  have := hp.length_eq
  simpa [activeP, aliveN] using this
theorem Inv10.held (h : Inv10 c S vs rs now) : S.H.length = lockN rs := by
  have hon := h.on
  have hnd : S.H.Nodup := by
    unfold Once at hon
    exact List.Pairwise.of_map _ (fun a b e1 e2 => e1 (by rw [e2])) hon
  have hp : S.H.Perm ((rs.filter fun r => !r.over).flatMap fun r => r.writes.map fun l => (l, r.tx)) := by
    refine (List.perm_ext_iff_of_nodup hnd ?_).2 fun x => ?_
    · refine List.pairwise_flatMap.2 ⟨fun r hr => ?_, ?_⟩
      · obtain ⟨i, hi⟩ := List.mem_iff_getElem?.1 (List.mem_filter.1 hr).1
        refine List.Pairwise.map _ (fun a b e1 e2 => e1 (by simpa using e2)) (h.la i r hi).2.2.2.2
      · have h1 : ((rs.filter fun r => !r.over).map (·.tx)).Nodup := List.Nodup.sublist (List.filter_sublist.map _) h.txs
        refine List.Pairwise.imp ?_ (List.pairwise_map.1 h1)
        intro a b hab x hx y hy e
        obtain ⟨l1, -, rfl⟩ := List.mem_map.1 hx
        obtain ⟨l2, -, rfl⟩ := List.mem_map.1 hy
        exact hab (Prod.ext_iff.1 e).2
    · obtain ⟨l, y⟩ := x
      rw [h.hs]
      simp only [List.mem_flatMap, List.mem_filter, List.mem_map, Prod.mk.injEq]
      constructor
      · rintro ⟨i, r, e, hi, ho, hl⟩
        exact ⟨r, ⟨List.mem_of_getElem? hi, by simp [ho]⟩, l, hl, rfl, by rw [h.tx i r hi, e]⟩
      · rintro ⟨r, ⟨hr, ho⟩, l', hl, rfl, rfl⟩
        obtain ⟨i, hi⟩ := List.mem_iff_getElem?.1 hr
        exact ⟨i, r, h.tx i r hi, hi, by simpa using ho, hl⟩
  have := hp.length_eq
  rw [this]
  unfold lockN
  rw [List.length_flatMap]
  congr 1
  refine List.map_congr_left fun r _ => ?_
  rw [List.length_map]
theorem Inv10.idle (h : Inv10 c S vs rs now) (hc : Cap10 c S) (ha : ∀ r ∈ rs, r.over = true) : S.list = [] ∧ S.L = [] ∧ S.H = [] := by
  have hno : ∀ t ∈ S.list, t.ended ≠ 0 := fun t ht e => by
    obtain ⟨i, r, hi, -, -, -, -, -, h1, -⟩ := h.tr t ht
    have h2 := (h1 e).1
    have h3 := ha r (List.mem_of_getElem? hi)
    rw [h2] at h3; cases h3
  have hl : S.list = [] := by
    cases hS : S.list with
    | nil => rfl
    | cons t l =>
      have ht : t ∈ S.list := by rw [hS]; exact List.mem_cons_self ..
      rcases hc.need t ht with h1 | ⟨u, hu, h1, -⟩
      · exact absurd h1 (hno t ht)
      · exact absurd h1 (hno u hu)
  refine ⟨hl, ?_, ?_⟩
  · cases hS : S.L with
    | nil => rfl
    | cons n l =>
      obtain ⟨t, ht, -⟩ := h.no n (by rw [hS]; exact List.mem_cons_self ..)
      rw [hl] at ht; cases ht
  · cases hS : S.H with
    | nil => rfl
    | cons x l =>
      obtain ⟨a, b⟩ := x
      obtain ⟨i, r, -, hi, ho, -⟩ := (h.hs a b).1 (by rw [hS]; exact List.mem_cons_self ..)
      have := ha r (List.mem_of_getElem? hi)
      rw [ho] at this; cases this
end
end Go.Proofs.YtknppiebncdjmaaGreat
