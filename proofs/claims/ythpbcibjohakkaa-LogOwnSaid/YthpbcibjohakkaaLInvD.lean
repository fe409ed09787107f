import Derived.Test.YthpbcibjohakkaaJBE
/- LI is kept: Append, Checkpoint, Format that nothing breaks. Over plain lists. -/
namespace Go.Proofs.Ythpbcibjohakkaa
set_option maxRecDepth 100000
set_option maxRecDepth 100000
open Go.RowKit

theorem layW_ge (zs : List Int) (st k a at_ : Nat) : ∀ x ∈ layW zs st k a at_, 2 ≤ x.1 := fun x hx => by
  obtain ⟨j, _, e⟩ := layW_at _ _ _ _ _ x hx
  omega
theorem wipeW_ge (k a : Nat) : ∀ x ∈ wipeW k a, 2 ≤ x.1 := fun x hx => by
  unfold wipeW at hx
  obtain ⟨j, _, rfl⟩ := List.mem_map.1 hx
  simp only
  omega
theorem two_area (n : Nat) (h : 6 ≤ n) : 2 + 2 * areaSize n ≤ n ∧ 2 ≤ areaSize n := by unfold areaSize; omega
/-- Pieces of a record among the pieces of a disk. -/
theorem lay_all (L : List Cn) (zs : List Int) (st stamp a at_ : Nat) (h6 : 6 ≤ L.length) (hs : st ≤ maxSt) (hl : zs.length ≤ 65536) (hb : ∀ z ∈ zs, 0 ≤ z ∧ z ≤ 255) (ha : a ≤ 1)
    (hfit : at_ + nblocks zs.length ≤ areaSize L.length) (hle : stamp ≤ st) (h : ∀ i, i < 2 * areaSize L.length → (pieceAt L i).stamp ≤ stamp) :
    ∀ i, i < 2 * areaSize L.length → (pieceAt (overW L (layW zs st (areaSize L.length) a at_)) i).stamp ≤ st := by
  intro i hi
  have h2 := two_area L.length h6
  have hak : a * areaSize L.length ≤ areaSize L.length := by have := Nat.mul_le_mul_right (areaSize L.length) ha; omega
  by_cases hin : a * areaSize L.length + at_ ≤ i ∧ i < a * areaSize L.length + at_ + nblocks zs.length
  · have := pieceAt_lay L zs st (areaSize L.length) a at_ (i - (a * areaSize L.length + at_)) hs hl hb (by omega) (by omega)
    rw [show a * areaSize L.length + at_ + (i - (a * areaSize L.length + at_)) = i from by omega] at this
    rw [this]
    exact Nat.le_refl _
  · rw [pieceAt_out]
    · exact Nat.le_trans (h i hi) hle
    · intro x hx e
      obtain ⟨j, hj, e2⟩ := layW_at _ _ _ _ _ x hx
      exact hin (by omega)

theorem LI.append {L : List Cn} {slot : Nat} {m : Mk} {stamp : Nat} {srs : List (Nat × List Int)} (h : LI L slot m stamp srs) (zs : List Int) (hs : stamp + 1 ≤ maxSt) (hl : zs.length ≤ 65536) (hb : ∀ z ∈ zs, 0 ≤ z ∧ z ≤ 255)
    (hfit : usedOf (srs.map (·.2)) + nblocks zs.length ≤ areaSize L.length) :
    LI (overW L (layW zs (stamp + 1) (areaSize L.length) m.area (usedOf (srs.map (·.2))))) slot m (stamp + 1) (srs ++ [(stamp + 1, zs)]) := by
  have h2 := two_area L.length h.lo
  refine ⟨by rw [overW_len]; exact h.lo, by rw [overW_len]; exact h.hi, ?_, h.pos, Nat.le_trans h.since (by omega), hs, ?_, ?_, ?_⟩
  · rw [findM_over _ _ (layW_ge _ _ _ _ _)]; exact h.mark
  · intro x hx
    rcases List.mem_append.1 hx with hx | hx
    · have := h.recs x hx
      exact ⟨this.1, by omega⟩
    · rw [List.mem_singleton.1 hx]
      exact ⟨Nat.le_trans h.since (by simp), Nat.le_refl _⟩
  · rw [overW_len]
    obtain ⟨rest, hr, hq⟩ := h.lies
    refine ⟨rest.drop (nblocks zs.length), ?_, hq.drop _⟩
    rw [areaP_lay L zs _ _ _ _ hs hl hb h.area.1 hfit h2.1, hr, List.take_left' (recsP_len srs), recsP_snoc, List.append_assoc, Nat.add_comm, ← List.drop_drop, List.drop_left' (recsP_len srs)]
  · rw [overW_len]
    exact lay_all L zs _ _ _ _ h.lo hs hl hb h.area.1 hfit (by omega) h.all

theorem LI.check {L : List Cn} {slot : Nat} {m : Mk} {stamp : Nat} {srs : List (Nat × List Int)} (h : LI L slot m stamp srs) (zs : List Int) (hs : stamp + 1 ≤ maxSt) (hl : zs.length ≤ 65536) (hb : ∀ z ∈ zs, 0 ≤ z ∧ z ≤ 255)
    (hfit : nblocks zs.length ≤ areaSize L.length) :
    LI (overW (overW L (layW zs (stamp + 1) (areaSize L.length) (1 - m.area) 0)) (turnW slot ⟨m.next, 1 - m.area, stamp + 1⟩ (areaSize L.length))) (1 - slot) ⟨m.next, 1 - m.area, stamp + 1⟩ (stamp + 1) [(stamp + 1, zs)] := by
  have h2 := two_area L.length h.lo
  have ha : 1 - m.area ≤ 1 := by omega
  have hlen := overW_len L (layW zs (stamp + 1) (areaSize L.length) (1 - m.area) 0)
  refine ⟨by rw [overW_len, overW_len]; exact h.lo, by rw [overW_len, overW_len]; exact h.hi, ?_, by simp, Nat.le_refl _, hs, ?_, ?_, ?_⟩
  · have hf : findM (overW L (layW zs (stamp + 1) (areaSize L.length) (1 - m.area) 0)) = (slot, m) := by
      rw [findM_over _ _ (layW_ge _ _ _ _ _)]; exact h.mark
    have := findM_turn _ slot m hf (1 - m.area) (stamp + 1) (by rw [hlen]; exact Nat.le_trans (by decide) h.lo) (by rw [hlen]; exact area_le h.hi) ha (by omega) hs
    rwa [hlen] at this
  · intro x hx
    rw [List.mem_singleton.1 hx]
    exact ⟨Nat.le_refl _, Nat.le_refl _⟩
  · rw [overW_len, hlen, areaP_turn]
    refine ⟨(areaP L (areaSize L.length) (1 - m.area)).drop (0 + nblocks zs.length), ?_, ?_⟩
    · simp only
      rw [areaP_lay L zs _ _ _ _ hs hl hb ha (by omega) h2.1]
      simp [recsP]
    · refine (quiet_old _ _ fun p hp => ?_).drop _
      unfold areaP at hp
      obtain ⟨i, hi, rfl⟩ := List.mem_map.1 hp
      have hi := List.mem_range.1 hi
      have hak : (1 - m.area) * areaSize L.length ≤ areaSize L.length := by have := Nat.mul_le_mul_right (areaSize L.length) ha; omega
      have := h.all ((1 - m.area) * areaSize L.length + i) (by omega)
      simp only
      omega
  · rw [overW_len, hlen]
    intro i hi
    rw [pieceAt_out]
    · exact lay_all L zs _ _ _ _ h.lo hs hl hb ha (by omega) (by omega : stamp ≤ stamp + 1) h.all i hi
    · intro x hx
      simp only [turnW, List.mem_singleton] at hx
      subst hx
      simp only
      omega

/-- A disk that Format wrote holds a log with no records, whatever stood there. -/
theorem LI.format (L : List Cn) (h6 : 6 ≤ L.length) (hh : L.length ≤ 16384) :
    LI (overW L (fmtW L)) (1 - (findM L).1) ⟨(findM L).2.next, 1 - (findM L).2.area, 1⟩ 1 [] := by
  have h2 := two_area L.length h6
  have hm := findS_turn L 2
  have harea : (findM L).2.area ≤ 1 := hm.2.1
  have hlen := overW_len L (wipeW (areaSize L.length) (1 - (findM L).2.area))
  have hall : ∀ b, b ≤ 1 → ∀ p ∈ areaP (overW L (fmtW L)) (areaSize L.length) b, p = Pc.no := by
    intro b hb
    unfold fmtW
    rw [overW_app, overW_app]
    by_cases e : b = (findM L).2.area
    · subst e
      exact areaP_wipe _ _ _ hb (by rw [overW_len, overW_len]; exact h2.1)
    · rw [areaP_wipe_other _ _ (findM L).2.area b (Ne.symm e) harea hb, areaP_turn, show b = 1 - (findM L).2.area from by omega]
      exact areaP_wipe _ _ _ (by omega) h2.1
  have hat : ∀ i, i < 2 * areaSize L.length → pieceAt (overW L (fmtW L)) i = Pc.no := by
    intro i hi
    by_cases h0 : i < areaSize L.length
    · refine hall 0 (by omega) _ (List.mem_map.2 ⟨i, List.mem_range.2 h0, ?_⟩)
      rw [Nat.zero_mul, Nat.zero_add]
    · refine hall 1 (by omega) _ (List.mem_map.2 ⟨i - areaSize L.length, List.mem_range.2 (by omega), ?_⟩)
      rw [Nat.one_mul, show areaSize L.length + (i - areaSize L.length) = i from by omega]
  refine ⟨by rw [overW_len]; exact h6, by rw [overW_len]; exact hh, ?_, by simp, Nat.le_refl _, by decide, fun x hx => by simp at hx, ?_, ?_⟩
  · have hf : findM (overW L (wipeW (areaSize L.length) (1 - (findM L).2.area))) = ((findM L).1, (findM L).2) := findM_over _ _ (wipeW_ge _ _)
    have := findM_turn _ (findM L).1 (findM L).2 hf (1 - (findM L).2.area) 1 (by rw [hlen]; omega) (by rw [hlen]; exact area_le hh) (by omega) (by omega) (by decide)
    rw [hlen] at this
    unfold fmtW
    rw [overW_app, overW_app, findM_over _ _ (wipeW_ge _ _)]
    exact this
  · rw [overW_len]
    refine ⟨areaP (overW L (fmtW L)) (areaSize L.length) (1 - (findM L).2.area), rfl, quiet_old _ _ fun p hp => ?_⟩
    rw [hall _ (by omega) p hp]
    exact Nat.one_pos
  · rw [overW_len]
    intro i hi
    rw [hat i hi]
    exact Nat.zero_le _
end Go.Proofs.Ythpbcibjohakkaa
