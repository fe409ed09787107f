import Derived.Test.YtnpeankmmojebaaGreatDoorJBE
import Derived.Test.YtnpeankmmojebaaGreatDoorJBK
import Derived.Test.YtnpeankmmojebaaGreatDoorJBJ
import Derived.Test.YtnpeankmmojebaaGreatDoorJBA
/- Layer 11: the first order and the shortest round of a right history, plainly: one of them is there, never both. -/
set_option linter.unusedVariables false
namespace Go.Proofs.YtnpeankmmojebaaGreatDoor
set_option maxRecDepth 100000
set_option maxRecDepth 100000

section
variable {cs : List Int} {ac : List Ac} {M : List Nat}
/-- The numbers of ranks. -/
def numsP (cs : List Int) (M : List Nat) : List Int := M.map fun r => (riseP cs).getD r 0
theorem Right.rl (hR : Right cs ac) : (riseP cs).length = cs.length := by rw [← sorted_is hR.nd, List.length_mergeSort]
theorem Right.gmem (hR : Right cs ac) : ∀ d ∈ graphP cs ac, d.fr ∈ riseP cs ∧ d.to ∈ riseP cs := fun d hd => by
  obtain ⟨h1, h2, -⟩ := hR.graph_mem hd
  exact ⟨((rise_is cs).2 _).2 h1, ((rise_is cs).2 _).2 h2⟩
theorem nums_at {i r : Nat} (h : M[i]? = some r) {x : Int} (hx : (riseP cs)[r]? = some x) : (numsP cs M)[i]? = some x := by
  unfold numsP
  rw [List.getElem?_map, h, Option.map_some, List.getD_eq_getElem?_getD, hx]; rfl
/-- An order of all ranks is one of all transactions, in which each dependency leads forward. -/
theorem fwd_of (hR : Right cs ac) (hM : LayP (edgeH cs ac) cs.length M) (hl : M.length = cs.length) : Fwd cs ac (numsP cs M) ∧ OrdP cs (numsP cs M) := by
  have hrl := hR.rl
  have hget : ∀ (i r : Nat), M[i]? = some r → ∃ x, (riseP cs)[r]? = some x ∧ (numsP cs M)[i]? = some x := fun i r h => by
    have hr := hM.lt r (List.mem_of_getElem? h)
    obtain ⟨x, hx⟩ : ∃ x, (riseP cs)[r]? = some x := ⟨_, List.getElem?_eq_getElem (by rw [hrl]; exact hr)⟩
    exact ⟨x, hx, nums_at h hx⟩
  have hnl : (numsP cs M).length = M.length := by simp [numsP]
  have hnd : (numsP cs M).Nodup := by
    rw [List.nodup_iff_pairwise_ne, List.pairwise_iff_getElem]
    intro i j hi hj hij e
    rw [hnl] at hi hj
    obtain ⟨x, h1, h2⟩ := hget i M[i] (List.getElem?_eq_getElem hi)
    obtain ⟨y, h3, h4⟩ := hget j M[j] (List.getElem?_eq_getElem hj)
    rw [(List.getElem?_eq_some_iff.1 h2).2, (List.getElem?_eq_some_iff.1 h4).2] at e
    subst e
    have e1 := idx_of (rise_nodup cs) h1
    have e2 := idx_of (rise_nodup cs) h3
    have := List.pairwise_iff_getElem.1 (List.nodup_iff_pairwise_ne.1 hM.nodup) i j hi hj hij
    omega
  have hsub : ∀ x ∈ numsP cs M, x ∈ cs := fun x hx => by
    obtain ⟨i, hi⟩ := List.mem_iff_getElem?.1 hx
    obtain ⟨r, hr⟩ : ∃ r, M[i]? = some r := ⟨_, List.getElem?_eq_getElem (by rw [← hnl]; exact (List.getElem?_eq_some_iff.1 hi).1)⟩
    obtain ⟨y, h1, h2⟩ := hget i r hr
    rw [hi] at h2
    cases h2
    exact ((rise_is cs).2 _).1 (List.mem_of_getElem? h1)
  have hlen : (numsP cs M).length = cs.length := by rw [hnl, hl]
  refine ⟨⟨hnd, fun x => ⟨hsub x, sub_back _ _ hnd hsub (by rw [hlen]; exact Nat.le_refl _) x⟩, fun d hd => ?_⟩, hlen, hnd, hsub⟩
  obtain ⟨m1, m2⟩ := hR.gmem d hd
  have he : (edgeP (riseP cs) d) ∈ edgeH cs ac := List.mem_map.2 ⟨d, hd, rfl⟩
  have hu := (hR.edOk.lt _ he)
  have hvM := hM.all hl _ hu.2
  have huM := hM.all hl _ hu.1
  have ha := hM.ahead _ _ hvM he
  have key : ∀ (x : Int) (r : Nat), x ∈ riseP cs → r = (riseP cs).idxOf x → r ∈ M → (numsP cs M).idxOf x = M.idxOf r := fun x r hx hr hrM => by
    refine idx_of hnd (nums_at (i := M.idxOf r) (r := r) ?_ (by rw [hr]; exact plcP_at hx))
    rw [List.getElem?_eq_getElem (List.idxOf_lt_length_of_mem hrM), List.getElem_idxOf]
  rw [key d.fr _ m1 rfl huM, key d.to _ m2 rfl hvM]
  exact ha
theorem no_round (hM : LayP (edgeH cs ac) cs.length M) (hl : M.length = cs.length) {l : List Int} (hr : RdIs cs ac l) : l = [] := by
  obtain ⟨r, h1, -, rfl⟩ := hr
  rcases h1 with ⟨rfl, -⟩ | ⟨f, k, a1, a2, -⟩
  · rfl
  · exact absurd a2 (hM.noround f (hM.all hl f a1) k)
/-- A round's next one. -/
theorem round_next (hR : Right cs ac) (hM : LayP (edgeH cs ac) cs.length M) (hs : ∀ v, v < cs.length → rdyB (edgeH cs ac) M v = false) (hl : M.length ≠ cs.length) {l : List Int} (hr : RdIs cs ac l) :
    2 ≤ l.length ∧ ∀ i, i < l.length → ∃ x y, l[i]? = some x ∧ l[(i + 1) % l.length]? = some y ∧ leadB (graphP cs ac) x y = true := by
  obtain ⟨r, h1, h2, rfl⟩ := hr
  rcases h1 with ⟨rfl, h3⟩ | ⟨f, k, a1, a2, a3, a4, a5, a6, a7⟩
  · obtain ⟨v, q, hv, hw⟩ := hM.round hR.edOk hs hl
    exact absurd hw (h3 v q hv)
  · have hk : 2 ≤ k := by
      rcases Nat.lt_or_ge k 2 with q | q
      · have := a2.pos
        have : k = 1 := by omega
        subst this
        cases a2 with
        | one he => exact absurd rfl (hR.edOk.ne _ he)
        | cons he hw => have := hw.pos; omega
      · exact q
    rw [List.length_map, a5]
    refine ⟨hk, fun i hi => ?_⟩
    obtain ⟨x, hx⟩ : ∃ x, r[i]? = some x := ⟨_, List.getElem?_eq_getElem (by omega)⟩
    obtain ⟨y, hy, he⟩ : ∃ y, r[(i + 1) % k]? = some y ∧ (x, y) ∈ edgesP (riseP cs) (graphP cs ac) := by
      rcases Nat.lt_or_ge (i + 1) k with q | q
      · obtain ⟨y, hy⟩ : ∃ y, r[i + 1]? = some y := ⟨_, List.getElem?_eq_getElem (by omega)⟩
        exact ⟨y, by rw [Nat.mod_eq_of_lt q]; exact hy, (a7 i x y q hx hy).1.1⟩
      · have hik : i + 1 = k := by omega
        rw [hik, Nat.mod_self]
        refine ⟨f, a6, ?_⟩
        obtain ⟨z, hz⟩ : ∃ z, r[i - 1]? = some z := ⟨_, List.getElem?_eq_getElem (by omega)⟩
        have hd := (a7 (i - 1) z x (by omega) hz (by rw [show i - 1 + 1 = i by omega]; exact hx)).1.2
        rw [show k - (i - 1 + 1) = 1 by omega] at hd
        cases hd.1 with
        | one he => exact he
        | cons he hw => have := hw.pos; omega
    have hrl := hR.rl
    have hlt := hR.edOk.lt _ he
    obtain ⟨nx, hnx⟩ : ∃ v, (riseP cs)[x]? = some v := ⟨_, List.getElem?_eq_getElem (by rw [hrl]; exact hlt.1)⟩
    obtain ⟨ny, hny⟩ : ∃ v, (riseP cs)[y]? = some v := ⟨_, List.getElem?_eq_getElem (by rw [hrl]; exact hlt.2)⟩
    refine ⟨nx, ny, ?_, ?_, (lead_edge (rise_nodup cs) hR.gmem hnx hny).2 he⟩
    · rw [List.getElem?_map, hx, Option.map_some, List.getD_eq_getElem?_getD, hnx]; rfl
    · rw [List.getElem?_map, hy, Option.map_some, List.getD_eq_getElem?_getD, hny]; rfl
end
end Go.Proofs.YtnpeankmmojebaaGreatDoor

/- Layer 11: the reference's order, plainly: who is free, the least one of these, all orders as numbers. -/
namespace Go.Proofs.YtnpeankmmojebaaGreatDoor
set_option maxRecDepth 100000
set_option maxRecDepth 100000

/-- All that lead to one are done. -/
def freeB (g : List Dp) (D : List Int) (t : Int) : Bool := g.all fun d => !(decide (d.to = t) && decide (plcP D d.fr < 0))
def okR (g : List Dp) (D : List Int) (t : Int) : Bool := decide (plcP D t < 0) && freeB g D t
theorem free_next {g : List Dp} {j : Nat} {d : Dp} (h : g[j]? = some d) (D : List Int) (t : Int) : freeB (g.take (j + 1)) D t = (freeB (g.take j) D t && !(decide (d.to = t) && decide (plcP D d.fr < 0))) := by
  unfold freeB
  rw [List.take_add_one, h, Option.toList_some, List.all_append]
  simp
/-- The least one that may be next, among so many. -/
def bestP (p : Int → Bool) : List Int → Int → Int
  | [], b => b
  | n :: l, b => bestP p l (if (b = 0 ∨ n < b) ∧ p n = true then n else b)
theorem best_is {p : Int → Bool} : ∀ (l : List Int) (b : Int), (∀ n ∈ l, 1 ≤ n) → (b = 0 ∨ 1 ≤ b) →
    (bestP p l b = b ∧ (∀ n ∈ l, p n = true → b ≠ 0 ∧ b ≤ n)) ∨ (bestP p l b ∈ l ∧ p (bestP p l b) = true ∧ (b = 0 ∨ bestP p l b < b) ∧ ∀ n ∈ l, p n = true → bestP p l b ≤ n)
  | [], b, _, _ => .inl ⟨rfl, by simp⟩
  | n :: l, b, h, hb => by
    unfold bestP
    have hn := h n (List.mem_cons_self ..)
    have hl := fun m hm => h m (List.mem_cons_of_mem _ hm)
    by_cases hc : (b = 0 ∨ n < b) ∧ p n = true
    · rw [if_pos hc]
      rcases best_is (p := p) l n hl (.inr hn) with ⟨e, k⟩ | ⟨k1, k2, k3, k4⟩
      · right
        rw [e]
        exact ⟨List.mem_cons_self .., hc.2, hc.1, fun m hm hp => (List.mem_cons.1 hm).elim (fun q => by rw [q]; exact Int.le_refl _) fun q => (k m q hp).2⟩
      · right
        refine ⟨List.mem_cons_of_mem _ k1, k2, ?_, fun m hm hp => (List.mem_cons.1 hm).elim (fun q => by rw [q]; omega) fun q => k4 m q hp⟩
        rcases hc.1 with q | q
        · exact .inl q
        · right; omega
    · rw [if_neg hc]
      rcases best_is (p := p) l b hl hb with ⟨e, k⟩ | ⟨k1, k2, k3, k4⟩
      · left
        refine ⟨e, fun m hm hp => (List.mem_cons.1 hm).elim (fun q => ?_) fun q => k m q hp⟩
        subst q
        by_cases h0 : b = 0
        · exact absurd ⟨.inl h0, hp⟩ hc
        · by_cases h1 : m < b
          · exact absurd ⟨.inr h1, hp⟩ hc
          · exact ⟨h0, by omega⟩
      · right
        refine ⟨List.mem_cons_of_mem _ k1, k2, k3, fun m hm hp => (List.mem_cons.1 hm).elim (fun q => ?_) fun q => k4 m q hp⟩
        subst q
        by_cases h0 : b = 0
        · exact absurd ⟨.inl h0, hp⟩ hc
        · by_cases h1 : m < b
          · exact absurd ⟨.inr h1, hp⟩ hc
          · omega
section
variable {cs : List Int} {ac : List Ac} {K M : List Nat}
theorem nums_mem (hR : Right cs ac) (hK : ∀ v ∈ K, v < cs.length) {r : Nat} {t : Int} (hr : (riseP cs)[r]? = some t) : t ∈ numsP cs K ↔ r ∈ K := by
  unfold numsP
  rw [List.mem_map]
  constructor
  · rintro ⟨q, hq, e⟩
    have hql : q < (riseP cs).length := by rw [hR.rl]; exact hK q hq
    rw [List.getD_eq_getElem?_getD, List.getElem?_eq_getElem hql, Option.getD_some] at e
    have e1 := idx_of (rise_nodup cs) hr
    have e2 := idx_of (rise_nodup cs) (show (riseP cs)[q]? = some t by rw [List.getElem?_eq_getElem hql, e])
    have : q = r := by omega
    rwa [← this]
  · intro h
    exact ⟨r, h, by rw [List.getD_eq_getElem?_getD, hr]; rfl⟩
/-- The reference's free ones are the ready ranks. -/
theorem ok_rdy (hR : Right cs ac) (hK : ∀ v ∈ K, v < cs.length) {r : Nat} {t : Int} (hr : (riseP cs)[r]? = some t) : okR (graphP cs ac) (numsP cs K) t = rdyB (edgeH cs ac) K r := by
  have key : okR (graphP cs ac) (numsP cs K) t = true ↔ rdyB (edgeH cs ac) K r = true := by
    unfold okR freeB
    rw [rdyB_is, Bool.and_eq_true, decide_eq_true_eq, plcP_neg, nums_mem hR hK hr, List.all_eq_true]
    refine and_congr_right fun _ => ?_
    constructor
    · intro h u hu
      obtain ⟨d, hd, he⟩ := List.mem_map.1 hu
      obtain ⟨m1, m2⟩ := hR.gmem d hd
      unfold edgeP at he
      injection he with h1 h2
      have p1 := plcP_at m1
      have p2 := plcP_at m2
      rw [h1] at p1
      rw [h2, hr] at p2
      have := h d hd
      rw [Bool.not_eq_true', Bool.and_eq_false_iff, decide_eq_false_iff_not, decide_eq_false_iff_not, plcP_neg, Classical.not_not] at this
      rcases this with q | q
      · exact absurd (Option.some.inj p2).symm q
      · exact (nums_mem hR hK p1).1 q
    · intro h d hd
      obtain ⟨m1, m2⟩ := hR.gmem d hd
      rw [Bool.not_eq_true', Bool.and_eq_false_iff, decide_eq_false_iff_not, decide_eq_false_iff_not, plcP_neg, Classical.not_not]
      by_cases e : d.to = t
      · right
        have he : (edgeP (riseP cs) d) ∈ edgeH cs ac := List.mem_map.2 ⟨d, hd, rfl⟩
        have hi : (riseP cs).idxOf d.to = r := by rw [e]; exact idx_of (rise_nodup cs) hr
        unfold edgeP at he
        rw [hi] at he
        exact (nums_mem hR hK (plcP_at m1)).2 (h _ he)
      · exact .inl e
  cases h1 : okR (graphP cs ac) (numsP cs K) t <;> cases h2 : rdyB (edgeH cs ac) K r <;> simp_all
/-- The least free number is that of the least ready rank. -/
theorem best_rank (hR : Right cs ac) (hK : ∀ v ∈ K, v < cs.length) :
    (bestP (okR (graphP cs ac) (numsP cs K)) cs 0 = 0 ∧ ∀ v, v < cs.length → rdyB (edgeH cs ac) K v = false) ∨
    ∃ v, v < cs.length ∧ (riseP cs)[v]? = some (bestP (okR (graphP cs ac) (numsP cs K)) cs 0) ∧ bestP (okR (graphP cs ac) (numsP cs K)) cs 0 ≠ 0 ∧ rdyB (edgeH cs ac) K v = true ∧ ∀ u, u < v → rdyB (edgeH cs ac) K u = false := by
  have hrl := hR.rl
  rcases best_is (p := okR (graphP cs ac) (numsP cs K)) cs 0 hR.pos (.inl rfl) with ⟨e, h⟩ | ⟨h1, h2, -, h4⟩
  · left
    refine ⟨e, fun v hv => ?_⟩
    obtain ⟨t, ht⟩ : ∃ t, (riseP cs)[v]? = some t := ⟨_, List.getElem?_eq_getElem (by rw [hrl]; exact hv)⟩
    rw [← ok_rdy hR hK ht]
    cases hk : okR (graphP cs ac) (numsP cs K) t with
    | false => rfl
    | true => exact absurd rfl (h t (((rise_is cs).2 t).1 (List.mem_of_getElem? ht)) hk).1
  · right
    generalize bestP (okR (graphP cs ac) (numsP cs K)) cs 0 = t at h1 h2 h4 ⊢
    have hm := ((rise_is cs).2 t).2 h1
    have ht := plcP_at hm
    have hvl := List.idxOf_lt_length_of_mem hm
    refine ⟨(riseP cs).idxOf t, by rw [← hrl]; exact hvl, ht, by have := hR.pos t h1; omega, by rw [← ok_rdy hR hK ht]; exact h2, fun u hu => ?_⟩
    obtain ⟨s, hs⟩ : ∃ s, (riseP cs)[u]? = some s := ⟨_, List.getElem?_eq_getElem (by omega)⟩
    rw [← ok_rdy hR hK hs]
    cases hk : okR (graphP cs ac) (numsP cs K) s with
    | false => rfl
    | true =>
      have h5 := h4 s (((rise_is cs).2 s).1 (List.mem_of_getElem? hs)) hk
      have h6 := List.pairwise_iff_getElem.1 (rise_is cs).1 u ((riseP cs).idxOf t) (by omega) hvl hu
      rw [(List.getElem?_eq_some_iff.1 hs).2, List.getElem_idxOf] at h6
      have h6 : s < t := by simpa [ltN] using h6
      omega
theorem nums_snoc {v : Nat} {t : Int} (h : (riseP cs)[v]? = some t) : numsP cs (K ++ [v]) = numsP cs K ++ [t] := by
  unfold numsP
  rw [List.map_append, List.map_cons, List.map_nil, List.getD_eq_getElem?_getD, h]; rfl
end
end Go.Proofs.YtnpeankmmojebaaGreatDoor
