import Derived.Test.YtapjgancaldgaaaTakeText
import Derived.Test.YtapjgancaldgaaaKUI
import Derived.Test.YtapjgancaldgaaaFrameB
/- What is taken is put as just the bytes that were there: on lists. -/
namespace Go.Proofs.Ytapjgancaldgaaa
set_option maxRecDepth 100000
open Go.RowKit

theorem dig_once : ∀ (zs : List Int) (i x n s : Nat), (∀ z ∈ zs, 0 ≤ z ∧ z ≤ 255) → dig zs i x = some (n, s) →
    ∃ m, n = x + m * 2 ^ (7 * i) ∧ i ≤ s ∧ uintB m = zs.take (s - i) ∧ (0 < i → 1 ≤ m)
  | [], _, _, _, _, _, h => by simp [dig] at h
  | z :: zs, i, x, n, s, hz, h => by
    have hzz := hz z (by simp)
    by_cases h9 : i = 9 ∧ 1 < z
    · rw [h9.1, dig_long _ _ _ h9.2] at h; simp at h
    · by_cases h128 : z < 128
      · by_cases h0 : z = 0 ∧ 0 < i
        · rw [h0.1, dig_zero _ _ _ h0.2] at h; simp at h
        · rw [dig_last _ _ _ _ h9 h128 h0] at h
          simp only [Option.some.injEq, Prod.mk.injEq] at h
          obtain ⟨rfl, rfl⟩ := h
          have e : (z % 128).toNat = z.toNat := by omega
          refine ⟨z.toNat, by rw [e], by omega, ?_, fun hi => by omega⟩
          rw [uintB_last _ (by omega), Nat.add_sub_cancel_left]
          simp; omega
      · rw [dig_on _ _ _ _ h9 h128] at h
        obtain ⟨m, hn, hi, hu, hm⟩ := dig_once zs (i + 1) _ n s (fun y hy => hz y (by simp [hy])) h
        have hm1 := hm (by omega)
        have hs : s - i = (s - (i + 1)) + 1 := by omega
        refine ⟨(z % 128).toNat + 128 * m, ?_, by omega, ?_, fun _ => by omega⟩
        · rw [hn, pow_step, Nat.add_mul, Nat.add_assoc]
          congr 2
          rw [Nat.mul_comm 128 m, Nat.mul_assoc]
        · rw [uintB_on' _ (by omega), hs, List.take_succ_cons]
          have e1 : ((z % 128).toNat + 128 * m) / 128 = m := by omega
          rw [e1, hu]
          congr 1
          omega

theorem takeUint_place_ok {zs : List Int} {at_ : Int} {u s : Nat} (h : takeUint zs at_ = (u, s, 0)) : 0 ≤ at_ ∧ at_.toNat ≤ zs.length ∧ dig (zs.drop at_.toNat) 0 0 = some (u, s) := by
  unfold takeUint at h
  split at h
  · simp at h
  · rename_i hp
    generalize hd : dig (zs.drop at_.toNat) 0 0 = o at h
    match o with
    | none => simp at h
    | some (a, b) =>
      simp only [Prod.mk.injEq, and_true] at h
      exact ⟨by omega, by omega, by rw [h.1, h.2]⟩

theorem uint_once {zs : List Int} {at_ : Int} {u s : Nat} (hz : ∀ z ∈ zs, 0 ≤ z ∧ z ≤ 255) (h : takeUint zs at_ = (u, s, 0)) : uintB u = (zs.drop at_.toNat).take s := by
  obtain ⟨_, _, hd⟩ := takeUint_place_ok h
  obtain ⟨m, hn, _, hu, _⟩ := dig_once _ 0 0 u s (fun z hzz => hz z (List.mem_of_mem_drop hzz)) hd
  have : u = m := by simpa using hn
  rw [this]
  simpa using hu

theorem takeUint_in {zs : List Int} {at_ : Int} {u s : Nat} (h : takeUint zs at_ = (u, s, 0)) : 0 ≤ at_ ∧ at_.toNat + s ≤ zs.length ∧ 1 ≤ s := by
  obtain ⟨h1, h2, hd⟩ := takeUint_place_ok h
  have hs := dig_size _ _ _ _ _ hd
  rw [List.length_drop] at hs
  refine ⟨h1, by omega, ?_⟩
  rcases Nat.eq_zero_or_pos s with h0 | h0
  · exfalso
    have : ∀ (ys : List Int) (i x n : Nat), dig ys i x ≠ some (n, 0) := by
      intro ys
      induction ys with
      | nil => intro i x n; simp [dig]
      | cons y ys ih =>
        intro i x n e
        unfold dig at e
        split at e
        · cases e
        · split at e
          · split at e
            · cases e
            · simp at e
          · exact ih _ _ _ e
    exact this _ _ _ _ (by rw [hd, h0])
  · exact h0

theorem takeInt_ok {zs : List Int} {at_ v : Int} {s : Nat} (h : takeInt zs at_ = (v, s, 0)) : ∃ u, takeUint zs at_ = (u, s, 0) ∧ intN v = u := by
  unfold takeInt at h
  generalize ht : takeUint zs at_ = t at h
  obtain ⟨u, s', e⟩ := t
  rcases Nat.eq_zero_or_pos e with rfl | he
  · simp only [Prod.mk.injEq, and_true] at h
    obtain ⟨h1, rfl⟩ := h
    refine ⟨u, rfl, ?_⟩
    rw [← h1]
    unfold intN
    by_cases h2 : u % 2 = 1
    · rw [if_pos h2, if_pos (by omega)]; omega
    · rw [if_neg h2, if_neg (by omega)]; omega
  · exfalso
    match e, he with
    | e + 1, _ => simp at h

theorem int_once {zs : List Int} {at_ v : Int} {s : Nat} (hz : ∀ z ∈ zs, 0 ≤ z ∧ z ≤ 255) (h : takeInt zs at_ = (v, s, 0)) : uintB (intN v) = (zs.drop at_.toNat).take s := by
  obtain ⟨u, hu, e⟩ := takeInt_ok h
  rw [e]; exact uint_once hz hu

theorem strB_nums (l : List Int) (h : ∀ z ∈ l, 0 ≤ z ∧ z ≤ 255) : strB (strOfNums l) = l := by
  unfold strB
  rw [strOfNums_data, List.map_map]
  conv => rhs; rw [← List.map_id l]
  apply List.map_congr_left
  intro z hz
  have := h z hz
  simp only [Function.comp_apply, UInt8.toNat_ofNat', id_eq]
  omega

theorem takeText_ok {zs : List Int} {at_ most : Int} {l : List Int} {s : Nat} (h : takeText zs at_ most = (l, s, 0)) :
    ∃ u k, takeUint zs at_ = (u, k, 0) ∧ s = k + u ∧ at_.toNat + k + u ≤ zs.length ∧ l = (zs.drop (at_.toNat + k)).take u := by
  unfold takeText at h
  split at h
  · simp at h
  · generalize ht : takeUint zs at_ = t at h
    obtain ⟨u, k, e⟩ := t
    rcases Nat.eq_zero_or_pos e with rfl | he
    · simp only at h
      split at h
      · simp at h
      · split at h
        · simp at h
        · simp only [Prod.mk.injEq, and_true] at h
          exact ⟨u, k, rfl, h.2.symm, by omega, h.1.symm⟩
    · exfalso
      match e, he with
      | e + 1, _ => simp at h

theorem text_once {zs : List Int} {at_ most : Int} {l : List Int} {s : Nat} (hz : ∀ z ∈ zs, 0 ≤ z ∧ z ≤ 255) (h : takeText zs at_ most = (l, s, 0)) : textB (strOfNums l) = (zs.drop at_.toNat).take s := by
  obtain ⟨u, k, hu, rfl, hfit, rfl⟩ := takeText_ok h
  have h1 := uint_once hz hu
  have hlen : ((zs.drop (at_.toNat + k)).take u).length = u := by rw [List.length_take, List.length_drop]; omega
  unfold textB
  rw [strOfNums_size, hlen, strB_nums _ (fun z hzz => hz z (List.mem_of_mem_drop (List.mem_of_mem_take hzz))), h1]
  rw [List.take_add, List.drop_drop]

theorem word_once (ys : List Int) (h : ∀ z ∈ ys, 0 ≤ z ∧ z ≤ 255) (h4 : 4 ≤ ys.length) : wordB (w4 ys) = ys.take 4 := by
  match ys, h4 with
  | a :: b :: c :: d :: r, _ =>
    have ha := h a (by simp)
    have hb := h b (by simp)
    have hc := h c (by simp)
    have hd := h d (by simp)
    simp [wordB, byteAt, w4, part]
    omega

theorem takeFrame_ok {zs : List Int} {at_ : Int} {l : List Int} {s : Nat} (h : takeFrame zs at_ = (l, s, 0)) :
    0 ≤ at_ ∧ s = l.length + 8 ∧ at_.toNat + s ≤ zs.length ∧ l.length ≤ 1048576 ∧ l = (zs.drop (at_.toNat + 8)).take l.length ∧ w4 (zs.drop at_.toNat) = l.length ∧ w4 (zs.drop (at_.toNat + 4)) = Crc.sum l := by
  unfold takeFrame at h
  split at h
  · simp at h
  · split at h
    · simp at h
    · split at h
      · simp at h
      · split at h
        · simp at h
        · rename_i h1 h2 h3 h4
          simp only [Prod.mk.injEq, and_true] at h
          obtain ⟨hl, hs⟩ := h
          have hlen : l.length = w4 (zs.drop at_.toNat) := by rw [← hl, List.length_take, List.length_drop]; omega
          refine ⟨by omega, by omega, by omega, by omega, by rw [hlen]; exact hl.symm, hlen.symm, ?_⟩
          rw [← hl]
          exact (Decidable.not_not.1 h4).symm

theorem frame_once {zs : List Int} {at_ : Int} {l : List Int} {s : Nat} (hz : ∀ z ∈ zs, 0 ≤ z ∧ z ≤ 255) (h : takeFrame zs at_ = (l, s, 0)) : frameB l = (zs.drop at_.toNat).take s := by
  obtain ⟨h1, hs, hfit, hlm, hl, hw, hsum⟩ := takeFrame_ok h
  generalize hp : at_.toNat = p at hl hw hsum hfit
  have e1 : wordB l.length = (zs.drop p).take 4 := by
    rw [← hw]; exact word_once _ (fun z hzz => hz z (List.mem_of_mem_drop hzz)) (by rw [List.length_drop]; omega)
  have e2 : wordB (Crc.sum l) = (zs.drop (p + 4)).take 4 := by
    rw [← hsum]; exact word_once _ (fun z hzz => hz z (List.mem_of_mem_drop hzz)) (by rw [List.length_drop]; omega)
  unfold frameB
  rw [e1, e2, hs, show l.length + 8 = 4 + (4 + l.length) from by omega, List.take_add, List.drop_drop, List.take_add, List.drop_drop]
  congr 2
end Go.Proofs.Ytapjgancaldgaaa
