/- What lies in which kid, as plain lists. -/
import Derived.Test.YtlhpoliiojekeaaTok
namespace Go.Proofs.Ytlhpoliiojekeaa
set_option maxRecDepth 100000
open Go.RowKit

/-- The number of keys that are not above k. -/
def pl (ks : List ByteArray) (k : ByteArray) : Nat := rk ks k + if has ks k then 1 else 0
theorem has_at {ks : List ByteArray} {k : ByteArray} (h : has ks k = true) : ks[rk ks k]? = some k := by simpa [has] using h
theorem has_not {ks : List ByteArray} {k a : ByteArray} (h : has ks k = false) (ha : ks[rk ks k]? = some a) : kl k a = true := by
  have h1 := rk_at ks k a ha
  have h2 : a ≠ k := fun e => by subst e; simp [has, ha] at h
  cases h3 : kl k a
  · exact absurd (kl_tri h1 h3) h2
  · rfl
theorem pl_le (ks : List ByteArray) (k : ByteArray) : pl ks k ≤ ks.length := by
  unfold pl
  split
  · rename_i h
    have := (List.getElem?_eq_some_iff.1 (has_at h)).1
    omega
  · have := rk_le ks k; omega
theorem pl_low {ks : List ByteArray} {k : ByteArray} {j : Nat} {a : ByteArray} (hj : j < pl ks k) (ha : ks[j]? = some a) : kl k a = false := by
  unfold pl at hj
  split at hj
  · rename_i h
    rcases Nat.lt_or_ge j (rk ks k) with h1 | h1
    · exact kl_asymm (rk_below ks k j a h1 ha)
    · obtain rfl : j = rk ks k := by omega
      rw [has_at h] at ha; cases ha; exact kl_irrefl _
  · exact kl_asymm (rk_below ks k j a (by omega) ha)
theorem pl_high {ks : List ByteArray} (hr : Rises ks) {k a : ByteArray} (ha : ks[pl ks k]? = some a) : kl k a = true := by
  unfold pl at ha
  split at ha
  · rename_i h
    exact hr.at_ (Nat.lt_succ_self _) (has_at h) ha
  · rename_i h
    exact has_not (by simpa using h) ha

theorem kidsP_cut (kids : List Kid) (i : Nat) (x : Kid) (hx : kids[i]? = some x) : kidsP kids = kidsP (kids.take i) ++ (x.ps ++ kidsP (kids.drop (i + 1))) := by
  have h1 : kids = kids.take i ++ (x :: kids.drop (i + 1)) := by
    obtain ⟨hlt, rfl⟩ := List.getElem?_eq_some_iff.1 hx
    rw [← List.drop_eq_getElem_cons hlt, List.take_append_drop]
  conv => lhs; rw [h1]
  simp [kidsP]
section
variable {N : Value → List Pr → Nat → Prop} {w : World} {g : Nat} {ps : List Pr} {ks : List ByteArray} {kids : List Kid}
theorem InC.kid (h : InC N w g ps ks kids) (k : ByteArray) : ∃ x, kids[pl ks k]? = some x :=
  ⟨_, List.getElem?_eq_getElem (by have := pl_le ks k; have := h.num; omega)⟩
theorem InC.front (h : InC N w g ps ks kids) (k : ByteArray) : ∀ p ∈ kidsP (kids.take (pl ks k)), kl p.1 k = true := by
  intro p hp
  obtain ⟨i, hi⟩ : ∃ i, pl ks k = i := ⟨_, rfl⟩
  rw [hi] at hp
  rcases i with _ | i
  · simp [kidsP] at hp
  · obtain ⟨s, hs⟩ : ∃ s, ks[i]? = some s := ⟨_, List.getElem?_eq_getElem (by have := pl_le ks k; omega)⟩
    exact kl_lt_le (h.below i s hs p hp) (pl_low (by omega) hs)
theorem InC.back (h : InC N w g ps ks kids) (k : ByteArray) : ∀ p ∈ kidsP (kids.drop (pl ks k + 1)), kl k p.1 = true := by
  intro p hp
  rcases Nat.lt_or_ge (pl ks k) ks.length with h1 | h1
  · have hs := List.getElem?_eq_getElem h1
    exact kl_lt_le (pl_high h.rise hs) (h.above _ _ hs p hp)
  · rw [List.drop_eq_nil_of_le (by have := h.num; omega)] at hp
    simp [kidsP] at hp
end
theorem keys_app (a b : List Pr) : keys (a ++ b) = keys a ++ keys b := by simp [keys]
theorem keys_len (a : List Pr) : (keys a).length = a.length := by simp [keys]
theorem rk_app_all (X Y : List ByteArray) (k : ByteArray) (h : ∀ a ∈ X, kl a k = true) : rk (X ++ Y) k = X.length + rk Y k := by
  induction X with
  | nil => simp
  | cons a X ih =>
    rw [List.cons_append, rk_cons, h a (List.mem_cons_self ..), if_pos rfl, ih fun b hb => h b (List.mem_cons_of_mem _ hb), List.length_cons]
    omega
theorem rk_app_none (Y Z : List ByteArray) (k : ByteArray) (h : ∀ a ∈ Z, kl k a = true) : rk (Y ++ Z) k = rk Y k := by
  induction Y with
  | nil =>
    rcases Z with _ | ⟨z, Z⟩
    · rfl
    · rw [List.nil_append, rk_cons, kl_asymm (h z (List.mem_cons_self ..))]; rfl
  | cons a Y ih => rw [List.cons_append, rk_cons, rk_cons, ih]
theorem keys_mem {ps : List Pr} {P : ByteArray → Prop} (h : ∀ p ∈ ps, P p.1) : ∀ a ∈ keys ps, P a := by
  intro a ha
  simp only [keys, List.mem_map] at ha
  obtain ⟨p, hp, rfl⟩ := ha
  exact h p hp
theorem rk_mid {X Y Z : List Pr} {k : ByteArray} (hX : ∀ p ∈ X, kl p.1 k = true) (hZ : ∀ p ∈ Z, kl k p.1 = true) : rk (keys (X ++ (Y ++ Z))) k = X.length + rk (keys Y) k := by
  rw [keys_app, rk_app_all _ _ _ (keys_mem (P := fun a => kl a k = true) hX), keys_len, keys_app, rk_app_none _ _ _ (keys_mem (P := fun a => kl k a = true) hZ)]
/-- A key's number. -/
def getP (ps : List Pr) (k : ByteArray) : Int × Bool :=
  match ps[rk (keys ps) k]? with
  | some p => if p.1 = k then (p.2, true) else (0, false)
  | none => (0, false)
theorem keys_get (ps : List Pr) (i : Nat) : (keys ps)[i]? = (ps[i]?).map Prod.fst := by simp [keys]
theorem getP_has (ps : List Pr) (k : ByteArray) : (getP ps k).2 = has (keys ps) k := by
  unfold getP has
  rw [keys_get]
  cases ps[rk (keys ps) k]? with
  | none => simp
  | some p => simp; split <;> simp_all
theorem getP_yes {ps : List Pr} {k : ByteArray} (h : has (keys ps) k = true) : ∃ z, ps[rk (keys ps) k]? = some (k, z) ∧ getP ps k = (z, true) := by
  have h1 := has_at h
  rw [keys_get] at h1
  obtain ⟨p, hp, h2⟩ := Option.map_eq_some_iff.1 h1
  obtain ⟨a, z⟩ := p
  cases h2
  exact ⟨z, hp, by unfold getP; rw [hp]; simp⟩
theorem getP_no {ps : List Pr} {k : ByteArray} (h : has (keys ps) k = false) : getP ps k = (0, false) := by
  have h1 := getP_has ps k
  rw [h] at h1
  unfold getP at h1 ⊢
  split
  · split
    · simp_all
    · rfl
  · rfl
theorem getP_mid {X Y Z : List Pr} {k : ByteArray} (hX : ∀ p ∈ X, kl p.1 k = true) (hZ : ∀ p ∈ Z, kl k p.1 = true) : getP (X ++ (Y ++ Z)) k = getP Y k := by
  have hr := rk_mid (Y := Y) hX hZ
  unfold getP
  rw [hr, List.getElem?_append_right (by omega), Nat.add_sub_cancel_left]
  rcases Nat.lt_or_ge (rk (keys Y) k) Y.length with h | h
  · rw [List.getElem?_append_left h]
  · rw [List.getElem?_append_right h, List.getElem?_eq_none h]
    cases hz : Z[rk (keys Y) k - Y.length]? with
    | none => rfl
    | some p =>
      have := hZ p (List.mem_of_getElem? hz)
      have hne : p.1 ≠ k := fun e => by rw [e, kl_irrefl] at this; cases this
      simp [hne]
theorem rises_mid {X Y Z : List Pr} (h : Rises (keys (X ++ (Y ++ Z)))) : Rises (keys Y) := by
  rw [keys_app, keys_app] at h
  exact (List.pairwise_append.1 (List.pairwise_append.1 h).2.1).1
end Go.Proofs.Ytlhpoliiojekeaa
