import Derived.Test.YtnpeankmmojebaaGreatDoorSeG
import Derived.Test.YtnpeankmmojebaaGreatDoorJAC
/- Layer 11: what can be laid down one behind the other: the ready ones, the order as it is filled, rounds where it can't be. -/
set_option linter.unusedVariables false
namespace Go.Proofs.YtnpeankmmojebaaGreatDoor
set_option maxRecDepth 100000
set_option maxRecDepth 100000

/-- How many that lead to v are not laid down. -/
def wtnW (E : Eg) (L : List Nat) (v : Nat) : Nat := ((insP E v).filter fun u => decide (u ∉ L)).length
/-- v may be laid down next. -/
def rdyB (E : Eg) (L : List Nat) (v : Nat) : Bool := decide (v ∉ L) && decide (wtnW E L v = 0)
theorem wtnW_zero {E : Eg} {L : List Nat} {v : Nat} : wtnW E L v = 0 ↔ ∀ u, (u, v) ∈ E → u ∈ L := by
  unfold wtnW
  rw [List.length_eq_zero_iff, List.filter_eq_nil_iff]
  exact ⟨fun h u hu => by simpa using h u (mem_ins.2 hu), fun h u hu => by simpa using h u (mem_ins.1 hu)⟩
theorem rdyB_is {E : Eg} {L : List Nat} {v : Nat} : rdyB E L v = true ↔ v ∉ L ∧ ∀ u, (u, v) ∈ E → u ∈ L := by
  unfold rdyB
  rw [Bool.and_eq_true, decide_eq_true_eq, decide_eq_true_eq, wtnW_zero]
/-- What can be laid down, one behind the other. -/
inductive LayP (E : Eg) (n : Nat) : List Nat → Prop
  | nil : LayP E n []
  | snoc {L : List Nat} {v : Nat} : LayP E n L → v < n → rdyB E L v = true → LayP E n (L ++ [v])
section
variable {E : Eg} {n : Nat} {L : List Nat}
theorem LayP.lt (h : LayP E n L) : ∀ v ∈ L, v < n := by
  induction h with
  | nil => simp
  | snoc _ hv _ ih => intro u hu; exact (List.mem_append.1 hu).elim (ih u) fun k => by rw [List.mem_singleton.1 k]; exact hv
theorem LayP.nodup (h : LayP E n L) : L.Nodup := by
  induction h with
  | nil => exact List.nodup_nil
  | snoc _ _ hr ih =>
    rw [List.nodup_append]
    refine ⟨ih, by simp, fun a ha b hb e => ?_⟩
    rw [List.mem_singleton.1 hb] at e
    exact (rdyB_is.1 hr).1 (e ▸ ha)
theorem LayP.closed (h : LayP E n L) : ∀ u v, v ∈ L → (u, v) ∈ E → u ∈ L := by
  induction h with
  | nil => simp
  | snoc _ _ hr ih =>
    intro u v hv he
    rcases List.mem_append.1 hv with k | k
    · exact List.mem_append_left _ (ih u v k he)
    · rw [List.mem_singleton.1 k] at he
      exact List.mem_append_left _ ((rdyB_is.1 hr).2 u he)
theorem nodup_le : ∀ (n : Nat) (L : List Nat), L.Nodup → (∀ v ∈ L, v < n) → L.length ≤ n
  | 0, [], _, _ => Nat.le_refl _
  | 0, v :: L, _, h => absurd (h v (List.mem_cons_self ..)) (by omega)
  | n + 1, L, hd, h => by
    have hd2 : (L.erase n).Nodup := hd.sublist List.erase_sublist
    have h2 := nodup_le n (L.erase n) hd2 fun v hv => by
      have h3 := (hd.mem_erase_iff).1 hv
      have := h v h3.2
      have := h3.1
      omega
    have h4 := List.length_erase (a := n) (l := L)
    split at h4 <;> omega
theorem nodup_le2 : ∀ (m l : List Nat), l.Nodup → (∀ x ∈ l, x ∈ m) → l.length ≤ m.length
  | m, [], _, _ => Nat.zero_le _
  | m, a :: l, hd, hs => by
    obtain ⟨h1, h2⟩ := List.nodup_cons.1 hd
    have ham := hs a (List.mem_cons_self ..)
    have := nodup_le2 (m.erase a) l h2 fun y hy => (List.mem_erase_of_ne (fun k : y = a => h1 (k ▸ hy))).2 (hs y (List.mem_cons_of_mem _ hy))
    rw [List.length_erase_of_mem ham] at this
    have := List.length_pos_of_mem ham
    simp; omega
theorem LayP.le (h : LayP E n L) : L.length ≤ n := nodup_le n L h.nodup h.lt
theorem LayP.last {v : Nat} (h : LayP E n (L ++ [v])) : LayP E n L ∧ v < n ∧ rdyB E L v = true := by
  generalize hM : L ++ [v] = M at h
  cases h with
  | nil => simp at hM
  | snoc h1 h2 h3 =>
    obtain ⟨rfl, e⟩ := List.append_inj' hM rfl
    cases e
    exact ⟨h1, h2, h3⟩
/-- All are laid down. -/
theorem LayP.all (h : LayP E n L) (hl : L.length = n) : ∀ v, v < n → v ∈ L := by
  intro v hv
  refine Classical.byContradiction fun hn => ?_
  have := nodup_le n (v :: L) (List.nodup_cons.2 ⟨hn, h.nodup⟩) fun u hu => by
    rcases List.mem_cons.1 hu with k | k
    · omega
    · exact h.lt u k
  simp at this
  omega
theorem count_outs (E : Eg) (x v : Nat) : (outsP E x).count v = (insP E v).count x := by
  unfold outsP insP
  induction E with
  | nil => rfl
  | cons e E ih =>
    obtain ⟨a, b⟩ := e
    by_cases h1 : a = x <;> by_cases h2 : b = v <;> simp_all
/-- One more is laid down. -/
theorem wtnW_snoc {x : Nat} (hx : x ∉ L) (v : Nat) : wtnW E (L ++ [x]) v + (outsP E x).count v = wtnW E L v := by
  rw [count_outs]
  unfold wtnW
  generalize insP E v = I
  induction I with
  | nil => rfl
  | cons u I ih =>
    by_cases h1 : u = x
    · subst h1
      have e1 : decide (u ∉ L ++ [u]) = false := by simp
      have e2 : decide (u ∉ L) = true := by simpa using hx
      rw [List.filter_cons_of_neg (by simp), List.filter_cons_of_pos (p := fun u => decide (u ∉ L)) e2, List.count_cons_self, List.length_cons]
      omega
    · rw [List.count_cons_of_ne h1]
      by_cases h2 : u ∈ L
      · rw [List.filter_cons_of_neg (by simp [h2]), List.filter_cons_of_neg (by simp [h2])]; exact ih
      · rw [List.filter_cons_of_pos (by simp [h2, h1]), List.filter_cons_of_pos (by simp [h2]), List.length_cons, List.length_cons]
        omega
/-- The least one from r on that is ready; -1: none. -/
def NxtIs (R : Nat → Bool) (n r : Nat) (o : Int) : Prop :=
  (o = -1 ∧ ∀ v, r ≤ v → v < n → R v = false) ∨ ∃ v : Nat, o = (v : Int) ∧ r ≤ v ∧ v < n ∧ R v = true ∧ ∀ u, r ≤ u → u < v → R u = false
/-- Laid down one by one, each time the least one. -/
inductive FillP (E : Eg) (n : Nat) : List Nat → List Nat → Prop
  | stop {L : List Nat} : (∀ v, v < n → rdyB E L v = false) → FillP E n L L
  | step {L M : List Nat} {v : Nat} : v < n → rdyB E L v = true → (∀ u, u < v → rdyB E L u = false) → FillP E n (L ++ [v]) M → FillP E n L M
theorem FillP.lay {M : List Nat} (h : FillP E n L M) (hL : LayP E n L) : LayP E n M := by
  induction h with
  | stop => exact hL
  | step h1 h2 _ _ ih => exact ih (.snoc hL h1 h2)
theorem FillP.over {M : List Nat} (h : FillP E n L M) : ∀ v, v < n → rdyB E M v = false := by
  induction h with
  | stop h => exact h
  | step _ _ _ _ ih => exact ih
theorem FillP.det {M N : List Nat} (h : FillP E n L M) (k : FillP E n L N) : M = N := by
  induction h with
  | stop h =>
    cases k with
    | stop => rfl
    | step h1 h2 _ _ => rw [h _ h1] at h2; cases h2
  | step h1 h2 h3 _ ih =>
    cases k with
    | stop k => rw [k _ h1] at h2; cases h2
    | step k1 k2 k3 k4 =>
      rename_i v _ u
      have : v = u := by
        rcases Nat.lt_trichotomy v u with q | q | q
        · rw [k3 _ q] at h2; cases h2
        · exact q
        · rw [h3 _ q] at k2; cases k2
      subst this
      exact ih k4
theorem FillP.exists : ∀ (f : Nat) (L : List Nat), LayP E n L → n ≤ L.length + f → ∃ M, FillP E n L M
  | 0, L, h, hf => ⟨L, .stop fun v hv => by
      cases hr : rdyB E L v with
      | false => rfl
      | true => exact absurd (h.all (Nat.le_antisymm h.le (by omega)) v hv) (rdyB_is.1 hr).1⟩
  | f + 1, L, h, hf => by
    by_cases hx : ∃ v, v < n ∧ rdyB E L v = true
    · have hd : ∃ v, (v < n ∧ rdyB E L v = true) ∧ ∀ u, u < v → ¬ (u < n ∧ rdyB E L u = true) := by
        obtain ⟨v, hv⟩ := hx
        induction v using Nat.strongRecOn with
        | ind v ih =>
          by_cases q : ∃ u, u < v ∧ u < n ∧ rdyB E L u = true
          · obtain ⟨u, h1, h2⟩ := q; exact ih u h1 h2
          · exact ⟨v, hv, fun u h1 h2 => q ⟨u, h1, h2⟩⟩
      obtain ⟨v, ⟨h1, h2⟩, h3⟩ := hd
      obtain ⟨M, hM⟩ := FillP.exists f (L ++ [v]) (.snoc h h1 h2) (by simp; omega)
      exact ⟨M, .step h1 h2 (fun u hu => by
        cases hr : rdyB E L u with
        | false => rfl
        | true => exact absurd ⟨by omega, hr⟩ (h3 u hu)) hM⟩
    · exact ⟨L, .stop fun v hv => by
        cases hr : rdyB E L v with
        | false => rfl
        | true => exact absurd ⟨v, hv, hr⟩ hx⟩
end
theorem Way.back {E : Eg} {L : List Nat} {v : Nat} (hc : ∀ u w, w ∈ L → (u, w) ∈ E → u ∈ L) (hv : ∀ u, (u, v) ∈ E → u ∈ L) {k a : Nat} (h : Way E k a v) : a ∈ L := by
  generalize hb : v = b at h
  induction h with
  | one e => exact hv _ (hb ▸ e)
  | cons e _ ih => exact hc _ _ (ih hb) e
theorem LayP.noround {E : Eg} {n : Nat} {L : List Nat} (h : LayP E n L) : ∀ v ∈ L, ∀ k, ¬ Way E k v v := by
  induction h with
  | nil => simp
  | snoc h1 _ hr ih =>
    intro u hu k hw
    rcases List.mem_append.1 hu with q | q
    · exact ih u q k hw
    · rw [List.mem_singleton.1 q] at hw
      exact (rdyB_is.1 hr).1 (hw.back h1.closed (rdyB_is.1 hr).2)
/-- Where no more can be laid down, but not all are, there is a round. -/
theorem LayP.round {E : Eg} {n : Nat} {L : List Nat} (h : LayP E n L) (hE : EdOk E n) (hs : ∀ v, v < n → rdyB E L v = false) (hl : L.length ≠ n) : ∃ r k, r < n ∧ Way E k r r := by
  have hpre : ∀ v, v < n → v ∉ L → ∃ u, u < n ∧ u ∉ L ∧ (u, v) ∈ E := fun v h1 h2 => by
    refine Classical.byContradiction fun hno => ?_
    have := rdyB_is.2 ⟨h2, fun u hu => Classical.byContradiction fun hn => hno ⟨u, (hE.lt _ hu).1, hn, hu⟩⟩
    rw [hs v h1] at this; cases this
  obtain ⟨v0, h1, h2⟩ : ∃ v, v < n ∧ v ∉ L := by
    refine Classical.byContradiction fun hno => hl (Nat.le_antisymm h.le ?_)
    have := nodup_le2 L (List.range n) List.nodup_range fun v hv => Classical.byContradiction fun hn => hno ⟨v, List.mem_range.1 hv, hn⟩
    simpa using this
  obtain ⟨P, hP⟩ : ∃ P : Nat → Nat, ∀ v, v < n → v ∉ L → P v < n ∧ P v ∉ L ∧ (P v, v) ∈ E :=
    ⟨fun v => if q : v < n ∧ v ∉ L then (hpre v q.1 q.2).choose else 0, fun v a b => by dsimp only; rw [dif_pos ⟨a, b⟩]; exact (hpre v a b).choose_spec⟩
  obtain ⟨c, hc0, hc1⟩ : ∃ c : Nat → Nat, c 0 = v0 ∧ ∀ i, c (i + 1) = P (c i) := ⟨fun i => Nat.rec v0 (fun _ x => P x) i, rfl, fun _ => rfl⟩
  have hc : ∀ i, c i < n ∧ c i ∉ L := fun i => by
    induction i with
    | zero => rw [hc0]; exact ⟨h1, h2⟩
    | succ i ih => rw [hc1]; exact ⟨(hP _ ih.1 ih.2).1, (hP _ ih.1 ih.2).2.1⟩
  have hw : ∀ d i, Way E (d + 1) (c (i + d + 1)) (c i) := fun d => by
    induction d with
    | zero => intro i; rw [Nat.add_zero, hc1]; exact .one (hP _ (hc i).1 (hc i).2).2.2
    | succ d ih =>
      intro i
      have := ih i
      refine .cons ?_ this
      rw [show i + (d + 1) + 1 = (i + d + 1) + 1 by omega, hc1]
      exact (hP _ (hc _).1 (hc _).2).2.2
  refine Classical.byContradiction fun hno => ?_
  have hinj : ∀ i j, i < j → c i ≠ c j := fun i j hij e => by
    have := hw (j - i - 1) i
    rw [show i + (j - i - 1) + 1 = j by omega, e] at this
    exact hno ⟨c j, _, (hc j).1, this⟩
  have hnd : ((List.range (n + 1)).map c).Nodup := by
    rw [List.nodup_iff_pairwise_ne, List.pairwise_map]
    refine List.pairwise_lt_range.imp fun {a b} hab => hinj a b hab
  have := nodup_le n _ hnd fun v hv => by
    obtain ⟨i, -, rfl⟩ := List.mem_map.1 hv
    exact (hc i).1
  simp at this
  omega
/-- What leads to another one stands ahead of it. -/
theorem LayP.ahead {E : Eg} {n : Nat} {L : List Nat} (h : LayP E n L) : ∀ u v, v ∈ L → (u, v) ∈ E → L.idxOf u < L.idxOf v := by
  induction h with
  | nil => simp
  | snoc h1 hv hr ih =>
    rename_i L0 x
    intro u v hv2 he
    have hr2 := rdyB_is.1 hr
    rcases List.mem_append.1 hv2 with q | q
    · have hu := h1.closed u v q he
      rw [List.idxOf_append, List.idxOf_append, if_pos hu, if_pos q]
      exact ih u v q he
    · rw [List.mem_singleton.1 q] at he ⊢
      have hu := hr2.2 u he
      rw [List.idxOf_append, List.idxOf_append, if_pos hu, if_neg hr2.1]
      have := List.idxOf_lt_length_of_mem hu
      omega
end Go.Proofs.YtnpeankmmojebaaGreatDoor

/- Layer 11: sets of ranks as words: their lowest bit, a bit turned, masks. -/
namespace Go.Proofs.YtnpeankmmojebaaGreatDoor
set_option maxRecDepth 100000
set_option maxRecDepth 100000

theorem least_bit {x : Nat} (h0 : x ≠ 0) : ∃ k, x.testBit k = true ∧ ∀ j, j < k → x.testBit j = false := by
  obtain ⟨k, hk⟩ := Nat.exists_testBit_of_ne_zero h0
  induction k using Nat.strongRecOn with
  | ind k ih =>
    by_cases q : ∃ j, j < k ∧ x.testBit j = true
    · obtain ⟨j, h1, h2⟩ := q; exact ih j h1 h2
    · exact ⟨k, hk, fun j hj => by
        cases hb : x.testBit j with
        | false => rfl
        | true => exact absurd ⟨j, hj, hb⟩ q⟩
theorem low_and {x k : Nat} (hx : x < 2 ^ 64) (h1 : x.testBit k = true) (h2 : ∀ j, j < k → x.testBit j = false) : k < 64 ∧ x &&& (2 ^ 64 - x) = 2 ^ k := by
  have hk : k < 64 := by
    refine Nat.lt_of_not_le fun h => ?_
    rw [Nat.testBit_lt_two_pow (Nat.lt_of_lt_of_le hx (Nat.pow_le_pow_right (by omega) h))] at h1
    cases h1
  have hm : x % 2 ^ k = 0 := by
    apply Nat.eq_of_testBit_eq
    intro j
    rw [Nat.testBit_mod_two_pow, Nat.zero_testBit]
    by_cases hj : j < k
    · simp [h2 j hj]
    · simp [hj]
  obtain ⟨q, hq⟩ : ∃ q, x / 2 ^ k = 2 * q + 1 := by
    refine ⟨x / 2 ^ k / 2, ?_⟩
    have h3 : x.testBit k = decide (x / 2 ^ k % 2 = 1) := by rw [Nat.testBit_eq_decide_div_mod_eq]
    rw [h3, decide_eq_true_eq] at h1
    omega
  have hx2 : x = 2 ^ k * (2 * q + 1) := by
    have := Nat.div_add_mod x (2 ^ k)
    rw [hm, hq] at this; omega
  have hp : 0 < 2 ^ k := Nat.two_pow_pos k
  obtain ⟨y, hy⟩ : ∃ y, 2 ^ k = y + 1 := ⟨2 ^ k - 1, by omega⟩
  have hz : x = (2 ^ k * (2 * q) + y) + 1 := by
    rw [hx2, Nat.mul_add, Nat.mul_one]; omega
  have hzl : 2 ^ k * (2 * q) + y < 2 ^ 64 := by omega
  refine ⟨hk, Nat.eq_of_testBit_eq fun j => ?_⟩
  rw [Nat.testBit_and, Nat.testBit_two_pow]
  rw [show (2 ^ 64 - x) = 2 ^ 64 - ((2 ^ k * (2 * q) + y) + 1) by rw [← hz], Nat.testBit_two_pow_sub_succ hzl, Nat.testBit_two_pow_mul_add _ (by omega)]
  have hxb : x.testBit j = if j < k then false else (2 * q + 1).testBit (j - k) := by
    rw [hx2, show 2 ^ k * (2 * q + 1) = 2 ^ k * (2 * q + 1) + 0 by omega, Nat.testBit_two_pow_mul_add _ hp]
    simp
  rw [hxb]
  by_cases hj : j < k
  · simp [hj]; omega
  · rw [if_neg hj, if_neg hj]
    by_cases e : k = j
    · subst e
      simp [hk]
    · obtain ⟨d, hd⟩ : ∃ d, j - k = d + 1 := ⟨j - k - 1, by omega⟩
      rw [hd, Nat.testBit_add_one, Nat.testBit_add_one]
      rw [show (2 * q + 1) / 2 = q by omega, show 2 * q / 2 = q by omega]
      cases q.testBit d <;> simp [e]
def tabN : List Nat := [0, 1, 56, 2, 57, 49, 28, 3, 61, 58, 42, 50, 38, 29, 17, 4, 62, 47, 59, 36, 45, 43, 51, 22, 53, 39, 33, 30, 24, 18, 12, 5, 63, 55, 48, 27, 60, 41, 37, 16, 46, 35, 44, 21, 52, 32, 23, 11, 54, 26, 40, 15, 34, 20, 31, 10, 25, 14, 19, 9, 13, 8, 7, 6]
theorem tab_at : ∀ k, k < 64 → tabN[2 ^ k * 285870213051353865 % 18446744073709551616 / 288230376151711744]? = some k := by decide
/-- The words of a set of ranks. -/
def Words (R : Nat → Bool) (m : Nat) (ws : List Nat) : Prop := ws.length = m ∧ ∀ (i x : Nat), ws[i]? = some x → x < 18446744073709551616 ∧ ∀ b, b < 64 → x.testBit b = R (64 * i + b)
def flipR (R : Nat → Bool) (v : Nat) : Nat → Bool := fun u => if u = v then !R v else R u
theorem Words.flip {R : Nat → Bool} {m : Nat} {ws : List Nat} (h : Words R m ws) {v x : Nat} (hx : ws[v / 64]? = some x) : Words (flipR R v) m (ws.set (v / 64) (x ^^^ 2 ^ (v % 64))) ∧ x < 18446744073709551616 ∧ 2 ^ (v % 64) < 18446744073709551616 := by
  have hv : v % 64 < 64 := Nat.mod_lt _ (by omega)
  have hp : 2 ^ (v % 64) < 2 ^ 64 := Nat.pow_lt_pow_right (by omega) hv
  obtain ⟨hx1, hx2⟩ := h.2 _ _ hx
  refine ⟨⟨by rw [List.length_set]; exact h.1, fun i y hy => ?_⟩, hx1, hp⟩
  rw [List.getElem?_set] at hy
  by_cases e : v / 64 = i
  · rw [if_pos e, if_pos (by rw [e]; exact e ▸ (List.getElem?_eq_some_iff.1 hx).1)] at hy
    cases hy
    refine ⟨Nat.xor_lt_two_pow (n := 64) hx1 hp, fun b hb => ?_⟩
    rw [Nat.testBit_xor, Nat.testBit_two_pow, hx2 b hb]
    unfold flipR
    by_cases e2 : v % 64 = b
    · have e3 : 64 * i + b = v := by omega
      rw [e, e3, if_pos rfl, decide_eq_true e2]; simp
    · have e3 : ¬ 64 * i + b = v := by omega
      rw [if_neg e3, decide_eq_false e2, e]; simp
  · rw [if_neg e] at hy
    obtain ⟨h1, h2⟩ := h.2 i y hy
    refine ⟨h1, fun b hb => ?_⟩
    rw [h2 b hb]
    unfold flipR
    rw [if_neg (by omega)]
/-- A word's mask: all bits from one on. -/
theorem mask_at {r : Nat} (hr : r < 64) {b : Nat} (hb : b < 64) : ((18446744073709551615 * 2 ^ r) % 18446744073709551616).testBit b = decide (r ≤ b) := by
  rw [show (18446744073709551616 : Nat) = 2 ^ 64 by decide, Nat.testBit_mod_two_pow, Nat.testBit_mul_two_pow]
  rw [show (18446744073709551615 : Nat) = 2 ^ 64 - 1 by decide, Nat.testBit_two_pow_sub_one]
  have : b - r < 64 := by omega
  simp [hb, this]
end Go.Proofs.YtnpeankmmojebaaGreatDoor

/- Layer 11: for how many each one waits and which are ready, while one is laid down, while one is taken back. -/
namespace Go.Proofs.YtnpeankmmojebaaGreatDoor
set_option maxRecDepth 100000
set_option maxRecDepth 100000

/-- For how many each one waits, while x is laid down. -/
def wjP (E : Eg) (L : List Nat) (x j v : Nat) : Nat := wtnW E L v - ((outsP E x).take j).count v
def rjP (E : Eg) (n : Nat) (L : List Nat) (x j v : Nat) : Bool := decide (v < n) && (decide (v ∉ L ++ [x]) && decide (wjP E L x j v = 0))
def rwP (E : Eg) (n : Nat) (L : List Nat) (v : Nat) : Bool := decide (v < n) && rdyB E L v
/-- While x is taken back. -/
def wbP (E : Eg) (L : List Nat) (x j v : Nat) : Nat := wtnW E (L ++ [x]) v + ((outsP E x).take j).count v
def rbP (E : Eg) (n : Nat) (L : List Nat) (x j v : Nat) : Bool := decide (v < n) && (decide (v = x) || (decide (v ∉ L ++ [x]) && decide (wbP E L x j v = 0)))
section
variable {E : Eg} {n : Nat} {L : List Nat} {x j tv : Nat}
theorem count_next {l : List Nat} {j tv : Nat} (h : l[j]? = some tv) (v : Nat) : (l.take (j + 1)).count v = (l.take j).count v + if v = tv then 1 else 0 := by
  rw [List.take_add_one, h, Option.toList_some, List.count_append]
  by_cases e : v = tv
  · subst e; simp
  · rw [if_neg e, List.count_cons_of_ne (Ne.symm e)]; rfl
theorem count_take_le (l : List Nat) (j v : Nat) : (l.take j).count v ≤ l.count v := (List.take_sublist j l).count_le v
theorem wj_zero (E : Eg) (L : List Nat) (x : Nat) : wjP E L x 0 = wtnW E L := by funext v; simp [wjP]
theorem wj_step (hx : x ∉ L) (h : (outsP E x)[j]? = some tv) : wjP E L x j tv = wjP E L x (j + 1) tv + 1 ∧ (fun u => if u = tv then wjP E L x (j + 1) tv else wjP E L x j u) = wjP E L x (j + 1) := by
  have h1 := wtnW_snoc (E := E) hx tv
  have h2 := count_next h tv
  have h3 := count_take_le (outsP E x) (j + 1) tv
  rw [if_pos rfl] at h2
  refine ⟨by unfold wjP; omega, ?_⟩
  funext u
  by_cases e : u = tv
  · rw [if_pos e, e]
  · rw [if_neg e]
    unfold wjP
    rw [count_next h u, if_neg e, Nat.add_zero]
theorem wj_all (hx : x ∉ L) : wjP E L x (outsP E x).length = wtnW E (L ++ [x]) := by
  funext v
  have h1 := wtnW_snoc (E := E) hx v
  unfold wjP
  rw [List.take_length]; omega
theorem rj_zero (hx : x < n) (hr : rdyB E L x = true) : flipR (rwP E n L) x = rjP E n L x 0 := by
  funext v
  unfold flipR rwP rjP
  by_cases e : v = x
  · subst e
    rw [if_pos rfl, decide_eq_true hx, hr]; simp
  · rw [if_neg e, wj_zero]
    unfold rdyB
    by_cases h : v ∈ L <;> simp [h, e]
theorem out_fresh (hE : EdOk E n) (hL : LayP E n L) (hx : x ∉ L) (h : (outsP E x)[j]? = some tv) : tv < n ∧ tv ∉ L ++ [x] := by
  have he := mem_outs.1 (List.mem_of_getElem? h)
  refine ⟨(hE.lt _ he).2, fun hm => ?_⟩
  rcases List.mem_append.1 hm with k | k
  · exact hx (hL.closed x tv k he)
  · exact hE.ne _ he (List.mem_singleton.1 k).symm
theorem rj_flip (hE : EdOk E n) (hL : LayP E n L) (hx : x ∉ L) (h : (outsP E x)[j]? = some tv) (h0 : wjP E L x (j + 1) tv = 0) : flipR (rjP E n L x j) tv = rjP E n L x (j + 1) := by
  obtain ⟨h1, h2⟩ := wj_step hx h
  obtain ⟨h3, h4⟩ := out_fresh hE hL hx h
  funext v
  unfold flipR
  by_cases e : v = tv
  · subst e
    rw [if_pos rfl]
    unfold rjP
    rw [decide_eq_true h3, decide_eq_true h4, h0, h1, h0]; rfl
  · rw [if_neg e]
    have := congrFun h2 v
    rw [if_neg e] at this
    unfold rjP
    rw [this]
theorem rj_keep (hx : x ∉ L) (h : (outsP E x)[j]? = some tv) (h0 : wjP E L x (j + 1) tv ≠ 0) : rjP E n L x j = rjP E n L x (j + 1) := by
  obtain ⟨h1, h2⟩ := wj_step hx h
  funext v
  unfold rjP
  by_cases e : v = tv
  · subst e
    rw [decide_eq_false h0, decide_eq_false (show ¬ wjP E L x j v = 0 by omega)]
  · have := congrFun h2 v
    rw [if_neg e] at this
    rw [this]
theorem rj_all (hx : x ∉ L) : rjP E n L x (outsP E x).length = rwP E n (L ++ [x]) := by
  funext v
  unfold rjP rwP rdyB
  rw [wj_all hx]
theorem wb_zero (E : Eg) (L : List Nat) (x : Nat) : wbP E L x 0 = wtnW E (L ++ [x]) := by funext v; simp [wbP]
theorem wb_step (h : (outsP E x)[j]? = some tv) : (fun u => if u = tv then wbP E L x j tv + 1 else wbP E L x j u) = wbP E L x (j + 1) := by
  funext u
  unfold wbP
  rw [count_next h u]
  by_cases e : u = tv
  · rw [if_pos e, if_pos e, e]; rfl
  · rw [if_neg e, if_neg e]; rfl
theorem wb_all (hx : x ∉ L) : wbP E L x (outsP E x).length = wtnW E L := by
  funext v
  have h1 := wtnW_snoc (E := E) hx v
  unfold wbP
  rw [List.take_length]; omega
theorem rb_zero (hx : x < n) : flipR (rwP E n (L ++ [x])) x = rbP E n L x 0 := by
  funext v
  unfold flipR rwP rbP
  by_cases e : v = x
  · subst e
    rw [if_pos rfl, decide_eq_true hx]; simp [rdyB]
  · rw [if_neg e, wb_zero, decide_eq_false e]
    unfold rdyB
    rw [Bool.false_or]
theorem rb_flip (hE : EdOk E n) (hL : LayP E n L) (hx : x ∉ L) (h : (outsP E x)[j]? = some tv) (h0 : wbP E L x j tv = 0) : flipR (rbP E n L x j) tv = rbP E n L x (j + 1) := by
  obtain ⟨h3, h4⟩ := out_fresh hE hL hx h
  have hne : tv ≠ x := fun e => h4 (by rw [e]; simp)
  have h2 := wb_step (L := L) h
  funext v
  unfold flipR
  by_cases e : v = tv
  · subst e
    have h5 : wbP E L x (j + 1) v = wbP E L x j v + 1 := by have := congrFun h2 v; simpa using this.symm
    rw [if_pos rfl]
    unfold rbP
    rw [decide_eq_true h3, decide_eq_true h4, decide_eq_false hne, h5, h0]; rfl
  · rw [if_neg e]
    have := congrFun h2 v
    rw [if_neg e] at this
    unfold rbP
    rw [this]
theorem rb_keep (h : (outsP E x)[j]? = some tv) (h0 : wbP E L x j tv ≠ 0) : rbP E n L x j = rbP E n L x (j + 1) := by
  have h2 := wb_step (L := L) h
  funext v
  unfold rbP
  by_cases e : v = tv
  · subst e
    have h5 : wbP E L x (j + 1) v = wbP E L x j v + 1 := by have := congrFun h2 v; simpa using this.symm
    rw [h5, decide_eq_false h0, decide_eq_false (show ¬ wbP E L x j v + 1 = 0 by omega)]
  · have := congrFun h2 v
    rw [if_neg e] at this
    rw [this]
theorem rb_all (hx : x ∉ L) (hr : rdyB E L x = true) : rbP E n L x (outsP E x).length = rwP E n L := by
  funext v
  unfold rbP rwP
  rw [wb_all hx]
  by_cases e : v = x
  · subst e
    rw [hr]; simp
  · unfold rdyB
    by_cases h : v ∈ L <;> simp [h, e]
end
/-- While the walk is made. -/
def wnP (E : Eg) (j v : Nat) : Nat := if v < j then (insP E v).length else 0
def rnP (E : Eg) (j v : Nat) : Bool := decide (v < j) && decide ((insP E v).length = 0)
theorem wtnW_nil (E : Eg) (v : Nat) : wtnW E [] v = (insP E v).length := by simp [wtnW]
theorem wn_step (E : Eg) (j : Nat) : (fun u => if u = j then (insP E j).length else wnP E j u) = wnP E (j + 1) := by
  funext u
  unfold wnP
  by_cases e : u = j
  · subst e; rw [if_pos rfl, if_pos (Nat.lt_succ_self _)]
  · rw [if_neg e]
    by_cases h : u < j
    · rw [if_pos h, if_pos (by omega)]
    · rw [if_neg h, if_neg (by omega)]
theorem rn_flip (E : Eg) (j : Nat) (h : (insP E j).length = 0) : flipR (rnP E j) j = rnP E (j + 1) := by
  funext u
  unfold flipR rnP
  by_cases e : u = j
  · subst e; simp [h]
  · rw [if_neg e]
    congr 1
    exact decide_eq_decide.2 (by omega)
theorem rn_keep (E : Eg) (j : Nat) (h : (insP E j).length ≠ 0) : rnP E j = rnP E (j + 1) := by
  funext u
  unfold rnP
  by_cases e : u = j
  · subst e; simp [h]
  · congr 1
    exact decide_eq_decide.2 (by omega)
theorem rn_all (E : Eg) (n : Nat) : rnP E n = rwP E n [] := by
  funext u
  unfold rnP rwP rdyB
  rw [wtnW_nil]; simp
end Go.Proofs.YtnpeankmmojebaaGreatDoor
