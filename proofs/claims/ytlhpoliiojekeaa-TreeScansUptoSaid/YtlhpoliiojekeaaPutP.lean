/- Put and Delete as plain lists. -/
import Derived.Test.YtlhpoliiojekeaaKidP
namespace Go.Proofs.Ytlhpoliiojekeaa
set_option maxRecDepth 100000
open Go.RowKit

/-- The pairs with k's number. -/
def putP (ps : List Pr) (k : ByteArray) (z : Int) : List Pr :=
  ps.take (rk (keys ps) k) ++ (k, z) :: ps.drop (rk (keys ps) k + if has (keys ps) k then 1 else 0)
/-- The pairs without k. -/
def delP (ps : List Pr) (k : ByteArray) : List Pr :=
  ps.take (rk (keys ps) k) ++ ps.drop (rk (keys ps) k + if has (keys ps) k then 1 else 0)
theorem rises_iff (ps : List Pr) : Rises (keys ps) ↔ ps.Pairwise (fun a b => kl a.1 b.1 = true) := by
  unfold Rises keys
  rw [List.pairwise_map]
theorem has_mid {X Y Z : List Pr} {k : ByteArray} (hX : ∀ p ∈ X, kl p.1 k = true) (hZ : ∀ p ∈ Z, kl k p.1 = true) : has (keys (X ++ (Y ++ Z))) k = has (keys Y) k := by
  rw [← getP_has, ← getP_has, getP_mid hX hZ]
theorem take_mid {α : Type} (X Y Z : List α) (r : Nat) (h : r ≤ Y.length) : (X ++ (Y ++ Z)).take (X.length + r) = X ++ Y.take r := by
  rw [List.take_append, List.take_of_length_le (by omega), Nat.add_sub_cancel_left, List.take_append, Nat.sub_eq_zero_of_le h]; simp
theorem drop_mid {α : Type} (X Y Z : List α) (r : Nat) (h : r ≤ Y.length) : (X ++ (Y ++ Z)).drop (X.length + r) = Y.drop r ++ Z := by
  rw [List.drop_append, List.drop_of_length_le (by omega), Nat.add_sub_cancel_left, List.drop_append, Nat.sub_eq_zero_of_le h]; simp
theorem rk_has_le (ps : List Pr) (k : ByteArray) : rk (keys ps) k + (if has (keys ps) k then 1 else 0) ≤ ps.length := by
  have := pl_le (keys ps) k
  rw [keys_len] at this
  exact this
theorem putP_mid {X Y Z : List Pr} {k : ByteArray} (z : Int) (hX : ∀ p ∈ X, kl p.1 k = true) (hZ : ∀ p ∈ Z, kl k p.1 = true) : putP (X ++ (Y ++ Z)) k z = X ++ (putP Y k z ++ Z) := by
  have h1 := rk_has_le Y k
  unfold putP
  rw [rk_mid hX hZ, has_mid hX hZ, take_mid _ _ _ _ (by omega), Nat.add_assoc, drop_mid _ _ _ _ h1]
  simp
theorem delP_mid {X Y Z : List Pr} {k : ByteArray} (hX : ∀ p ∈ X, kl p.1 k = true) (hZ : ∀ p ∈ Z, kl k p.1 = true) : delP (X ++ (Y ++ Z)) k = X ++ (delP Y k ++ Z) := by
  have h1 := rk_has_le Y k
  unfold delP
  rw [rk_mid hX hZ, has_mid hX hZ, take_mid _ _ _ _ (by omega), Nat.add_assoc, drop_mid _ _ _ _ h1]
  simp
theorem putP_mem {ps : List Pr} {k : ByteArray} {z : Int} {p : Pr} (h : p ∈ putP ps k z) : p.1 = k ∨ p ∈ ps := by
  unfold putP at h
  rcases List.mem_append.1 h with h | h
  · exact .inr (List.mem_of_mem_take h)
  · rcases List.mem_cons.1 h with rfl | h
    · exact .inl rfl
    · exact .inr (List.mem_of_mem_drop h)
theorem delP_mem {ps : List Pr} {k : ByteArray} {p : Pr} (h : p ∈ delP ps k) : p ∈ ps := by
  unfold delP at h
  rcases List.mem_append.1 h with h | h
  · exact List.mem_of_mem_take h
  · exact List.mem_of_mem_drop h
theorem putP_len (ps : List Pr) (k : ByteArray) (z : Int) : (putP ps k z).length = ps.length + if has (keys ps) k then 0 else 1 := by
  have h1 := rk_has_le ps k
  unfold putP
  simp only [List.length_append, List.length_take, List.length_cons, List.length_drop]
  split at h1 <;> simp_all <;> omega
theorem delP_len (ps : List Pr) (k : ByteArray) : (delP ps k).length + (if has (keys ps) k then 1 else 0) = ps.length := by
  have h1 := rk_has_le ps k
  unfold delP
  simp only [List.length_append, List.length_take, List.length_drop]
  split at h1 <;> simp_all <;> omega
theorem drop_above {ps : List Pr} (hr : Rises (keys ps)) (k : ByteArray) : ∀ p ∈ ps.drop (rk (keys ps) k + if has (keys ps) k then 1 else 0), kl k p.1 = true := by
  intro p hp
  obtain ⟨j, hj, rfl⟩ := List.mem_iff_getElem.1 hp
  rw [List.getElem_drop]
  have hlt : rk (keys ps) k + (if has (keys ps) k then 1 else 0) + j < ps.length := by rw [List.length_drop] at hj; omega
  have hk : (keys ps)[pl (keys ps) k + j]? = some (ps[rk (keys ps) k + (if has (keys ps) k then 1 else 0) + j]'hlt).1 := by
    rw [keys_get]; unfold pl; rw [List.getElem?_eq_getElem hlt]; rfl
  rcases j with _ | j
  · exact pl_high hr hk
  · have h0 : (keys ps)[pl (keys ps) k]? = some (ps[rk (keys ps) k + (if has (keys ps) k then 1 else 0)]'(by omega)).1 := by
      rw [keys_get]; unfold pl; rw [List.getElem?_eq_getElem (by omega)]; rfl
    exact kl_trans (pl_high hr h0) (hr.at_ (by omega) h0 hk)
theorem take_under {ps : List Pr} (k : ByteArray) : ∀ p ∈ ps.take (rk (keys ps) k), kl p.1 k = true := by
  intro p hp
  obtain ⟨j, hj, rfl⟩ := List.mem_iff_getElem.1 hp
  rw [List.length_take] at hj
  refine rk_below (keys ps) k j _ (by omega) ?_
  rw [keys_get, List.getElem_take, List.getElem?_eq_getElem (by omega)]; rfl
theorem putP_rises {ps : List Pr} (hr : Rises (keys ps)) (k : ByteArray) (z : Int) : Rises (keys (putP ps k z)) := by
  rw [rises_iff] at hr ⊢
  unfold putP
  rw [List.pairwise_append]
  have ha := drop_above ((rises_iff ps).2 hr) k
  have hu := take_under (ps := ps) k
  refine ⟨hr.sublist (List.take_sublist _ _), List.pairwise_cons.2 ⟨ha, hr.sublist (List.drop_sublist _ _)⟩, fun a h b hb => ?_⟩
  rcases List.mem_cons.1 hb with rfl | hb
  · exact hu a h
  · exact kl_trans (hu a h) (ha b hb)
theorem delP_rises {ps : List Pr} (hr : Rises (keys ps)) (k : ByteArray) : Rises (keys (delP ps k)) := by
  rw [rises_iff] at hr ⊢
  unfold delP
  rw [List.pairwise_append]
  have ha := drop_above ((rises_iff ps).2 hr) k
  have hu := take_under (ps := ps) k
  exact ⟨hr.sublist (List.take_sublist _ _), hr.sublist (List.drop_sublist _ _), fun a h b hb => kl_trans (hu a h) (ha b hb)⟩
/-- A change of a list of pairs at one key. -/
structure Chg (k : ByteArray) (F : List Pr → List Pr) : Prop where
  rises : ∀ ps, Rises (keys ps) → Rises (keys (F ps))
  mem : ∀ ps p, p ∈ F ps → p.1 = k ∨ p ∈ ps
  mid : ∀ X Y Z : List Pr, (∀ p ∈ X, kl p.1 k = true) → (∀ p ∈ Z, kl k p.1 = true) → F (X ++ (Y ++ Z)) = X ++ (F Y ++ Z)
  up : ∀ ps, (F ps).length ≤ ps.length + 1
  down : ∀ ps, ps.length ≤ (F ps).length + 1
theorem chg_put (k : ByteArray) (z : Int) : Chg k (putP · k z) :=
  ⟨fun _ h => putP_rises h k z, fun _ _ h => putP_mem h, fun _ _ _ h1 h2 => putP_mid z h1 h2, fun ps => by have := putP_len ps k z; split at this <;> omega, fun ps => by have := putP_len ps k z; split at this <;> omega⟩
theorem chg_del (k : ByteArray) : Chg k (delP · k) :=
  ⟨fun _ h => delP_rises h k, fun _ _ h => .inr (delP_mem h), fun _ _ _ h1 h2 => delP_mid h1 h2, fun ps => by have := delP_len ps k; split at this <;> omega, fun ps => by have := delP_len ps k; split at this <;> omega⟩
end Go.Proofs.Ytlhpoliiojekeaa
