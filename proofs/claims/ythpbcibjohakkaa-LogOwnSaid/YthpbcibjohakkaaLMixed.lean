/- What a loss of power leaves of a log's blocks: the records as they were, or with the one that was met. Over plain lists. -/
import Derived.Test.YthpbcibjohakkaaLInvD
namespace Go.Proofs.Ythpbcibjohakkaa
set_option maxRecDepth 100000
set_option maxRecDepth 100000
open Go.RowKit

/-- Each block as it was, or as some write of ws left it, or torn by one. -/
structure Mixed (L : List Cn) (ws : List (Nat × List Int)) (L' : List Cn) : Prop where
  len : L'.length = L.length
  at_ : ∀ i, i < L.length → L'[i]? = L[i]? ∨ ∃ b, (i, b) ∈ ws ∧ (L'[i]? = some ⟨b, false⟩ ∨ L'[i]? = some ⟨zero64, true⟩)
theorem Mixed.refl (L : List Cn) (ws : List (Nat × List Int)) : Mixed L ws L := ⟨rfl, fun _ _ => .inl rfl⟩
theorem Mixed.settle {L0 L : List Cn} {ws : List (Nat × List Int)} (h : Mixed L0 ws L) (x : Wr) (k : Int) (hx : (x.p, x.b) ∈ ws) : Mixed L0 ws (settleL L x k) := by
  refine ⟨by rw [settleL_len]; exact h.len, fun i hi => ?_⟩
  unfold settleL
  split
  · by_cases e : x.p = i
    · subst e
      exact .inr ⟨x.b, hx, .inl (List.getElem?_set_self (by rw [h.len]; exact hi))⟩
    · rw [List.getElem?_set_ne e]
      exact h.at_ i hi
  · split
    · by_cases e : x.p = i
      · subst e
        exact .inr ⟨x.b, hx, .inr (List.getElem?_set_self (by rw [h.len]; exact hi))⟩
      · rw [List.getElem?_set_ne e]
        exact h.at_ i hi
    · exact h.at_ i hi
theorem Mixed.lay : ∀ (xs : List Wr) (ks : List Int) {L0 L : List Cn} {ws : List (Nat × List Int)}, Mixed L0 ws L → (∀ x ∈ xs, (x.p, x.b) ∈ ws) → Mixed L0 ws (layAll L xs ks)
  | [], ks, _, _, _, h, _ => by cases ks <;> exact h
  | x :: xs, [], _, _, _, h, _ => h
  | x :: xs, k :: ks, _, _, _, h, hx => Mixed.lay xs ks (h.settle x k (hx x (List.mem_cons_self ..))) fun y hy => hx y (List.mem_cons_of_mem _ hy)
/-- What is left of the first of some writes. -/
theorem mixed_pend (L : List Cn) (ws : List (Nat × List Int)) (j : Nat) (ks : List Int) : Mixed L ws (layAll L ((ws.take j).map fun x => (⟨x.1, x.2⟩ : Wr)) ks) := by
  refine Mixed.lay _ ks (Mixed.refl L ws) fun x hx => ?_
  obtain ⟨y, hy, rfl⟩ := List.mem_map.1 hx
  exact List.mem_of_mem_take hy

theorem takePiece_nil : takePiece [] = Pc.no := by rfl
theorem takeMark_nil (k : Nat) : takeMark [] k = Mk.no := by
  have e : rdText ⟨[], false⟩ = ([], ⟨[], true⟩) := by rfl
  unfold takeMark
  simp only [e]
  rw [if_pos (by decide)]
theorem blockC_torn (b : List Int) : blockC ⟨b, true⟩ = [] := rfl
theorem Mixed.get {L L' : List Cn} {ws : List (Nat × List Int)} (h : Mixed L ws L') (i : Nat) (hi : i < L.length) (hn : ∀ x ∈ ws, x.1 ≠ i) : L'[i]? = L[i]? := by
  rcases h.at_ i hi with e | ⟨b, hb, _⟩
  · exact e
  · exact absurd rfl (hn _ hb)
theorem Mixed.getD {L L' : List Cn} {ws : List (Nat × List Int)} (h : Mixed L ws L') (i : Nat) (hn : ∀ x ∈ ws, x.1 ≠ i) (d : Cn) : L'.getD i d = L.getD i d := by
  rw [List.getD_eq_getElem?_getD, List.getD_eq_getElem?_getD]
  by_cases hi : i < L.length
  · rw [h.get i hi hn]
  · rw [List.getElem?_eq_none (by rw [h.len]; omega), List.getElem?_eq_none (by omega)]
theorem Mixed.markAt {L L' : List Cn} {ws : List (Nat × List Int)} (h : Mixed L ws L') (i : Nat) (hn : ∀ x ∈ ws, x.1 ≠ i) : markAt L' i = markAt L i := by
  unfold Go.Proofs.Ythpbcibjohakkaa.markAt
  rw [h.getD i hn, h.len]
theorem Mixed.findM {L L' : List Cn} {ws : List (Nat × List Int)} (h : Mixed L ws L') (hn : ∀ x ∈ ws, 2 ≤ x.1) : findM L' = findM L := by
  rw [findM_eq, findM_eq, h.markAt 0 (fun x hx => by have := hn x hx; omega), h.markAt 1 (fun x hx => by have := hn x hx; omega)]
theorem Mixed.pieceOut {L L' : List Cn} {ws : List (Nat × List Int)} (h : Mixed L ws L') (i : Nat) (hn : ∀ x ∈ ws, x.1 ≠ 2 + i) : pieceAt L' i = pieceAt L i := by
  unfold pieceAt
  rw [h.getD (2 + i) hn]
theorem Mixed.areaOut {L L' : List Cn} {ws : List (Nat × List Int)} (h : Mixed L ws L') (k a : Nat) (hn : ∀ x ∈ ws, ∀ i, i < k → x.1 ≠ 2 + (a * k + i)) : areaP L' k a = areaP L k a := by
  unfold areaP
  apply List.map_congr_left
  intro i hi
  exact h.pieceOut _ fun x hx => hn x hx i (List.mem_range.1 hi)
/-- A block of a record's: as it was, or the record's piece, or none. -/
theorem Mixed.piece {L L' : List Cn} {zs : List Int} {st k a at_ : Nat} (h : Mixed L (layW zs st k a at_) L') (hs : st ≤ maxSt) (hl : zs.length ≤ 65536) (hb : ∀ z ∈ zs, 0 ≤ z ∧ z ≤ 255) (i : Nat) (hi : 2 + i < L.length) :
    pieceAt L' i = pieceAt L i ∨ ∃ j, j < nblocks zs.length ∧ i = a * k + (at_ + j) ∧ (pieceAt L' i = ⟨st, zs.length, j, chunk zs j⟩ ∨ pieceAt L' i = Pc.no) := by
  rcases h.at_ (2 + i) hi with e | ⟨b, hm, e⟩
  · left
    unfold pieceAt
    rw [List.getD_eq_getElem?_getD, List.getD_eq_getElem?_getD, e]
  · right
    unfold layW at hm
    obtain ⟨j, hj, hp⟩ := List.mem_map.1 hm
    have hj := List.mem_range.1 hj
    injection hp with hp1 hp2
    refine ⟨j, hj, by omega, ?_⟩
    have h40 := nblocks_lt _ _ hj
    have hn := nblocks_le zs.length 1639 (by omega) (by omega)
    rcases e with e | e
    · left
      unfold pieceAt
      rw [List.getD_eq_getElem?_getD, e, Option.getD_some, ← hp2]
      have hcl := chunk_len zs j h40
      have := blockC_back (pieceB ⟨st, zs.length, j, chunk zs j⟩) (pieceB_byte _ (fun z hz => hb z (List.mem_of_mem_drop (List.mem_of_mem_take hz)))) (pieceB_len _ hs hl (by simp only; omega) (by simp only; omega))
      unfold chunk at this ⊢
      rw [this]
      have := takePiece_back _ (pc_ok st zs j hs hl hj)
      unfold chunk at this
      exact this
    · right
      unfold pieceAt
      rw [List.getD_eq_getElem?_getD, e, Option.getD_some, blockC_torn, takePiece_nil]

theorem starts_is {since : Nat} {ps : List Pc} (h : starts since ps = true) : ∃ f, ps[0]? = some f ∧ since ≤ f.stamp ∧ ∀ j, j < nblocks f.len → ∃ p, ps[j]? = some p ∧ p.stamp = f.stamp ∧ p.num = j := by
  cases ps with
  | nil => simp [starts] at h
  | cons f t =>
    unfold starts at h
    simp only [Bool.and_eq_true, decide_eq_true_eq, List.all_eq_true, List.mem_range] at h
    obtain ⟨⟨h1, h2⟩, h3⟩ := h
    refine ⟨f, rfl, h1, fun j hj => ?_⟩
    obtain ⟨p, hp⟩ : ∃ p, (f :: t)[j]? = some p := ⟨_, List.getElem?_eq_getElem (by omega)⟩
    have := h3 j hj
    rw [List.getD_eq_getElem?_getD, hp, Option.getD_some] at this
    exact ⟨p, hp, this.1, this.2⟩
theorem starts_of {since : Nat} {ps : List Pc} {f : Pc} (h0 : ps[0]? = some f) (h1 : since ≤ f.stamp) (h : ∀ j, j < nblocks f.len → ∃ p, ps[j]? = some p ∧ p.stamp = f.stamp ∧ p.num = j) : starts since ps = true := by
  cases ps with
  | nil => simp at h0
  | cons g t =>
    simp only [List.getElem?_cons_zero, Option.some.injEq] at h0
    subst h0
    unfold starts
    simp only [Bool.and_eq_true, decide_eq_true_eq, List.all_eq_true, List.mem_range]
    refine ⟨⟨h1, ?_⟩, fun j hj => ?_⟩
    · have hp := nblocks_pos g.len
      obtain ⟨p, hp2, _⟩ := h (nblocks g.len - 1) (by omega)
      have := (List.getElem?_eq_some_iff.1 hp2).1
      omega
    · obtain ⟨p, hp, h2, h3⟩ := h j hj
      rw [List.getD_eq_getElem?_getD, hp, Option.getD_some]
      exact ⟨h2, h3⟩
/-- Pieces of a newer record, not all of them, and torn blocks, among those where no whole record stands: none stands. -/
theorem quiet_mixed {since st n0 : Nat} {rest rest' : List Pc} (new : Nat → Pc) (hnew : ∀ j, (new j).stamp = st ∧ (new j).num = j ∧ (new j).len = n0)
    (hrel : ∀ j, rest'[j]? = rest[j]? ∨ (j < nblocks n0 ∧ (rest'[j]? = some (new j) ∨ rest'[j]? = some Pc.no)))
    (hold : ∀ p ∈ rest, p.stamp < st) (hpos : 0 < since) (hst : since ≤ st) (hq : Quiet since rest) (hnot : ¬ ∀ j, j < nblocks n0 → rest'[j]? = some (new j)) : Quiet since rest' := by
  intro i
  cases hs : starts since (rest'.drop i) with
  | false => rfl
  | true =>
    exfalso
    obtain ⟨f, hf, h1, h2⟩ := starts_is hs
    rw [List.getElem?_drop, Nat.add_zero] at hf
    simp only [List.getElem?_drop] at h2
    rcases hrel i with e | ⟨hi, e | e⟩
    · rw [e] at hf
      have hfs := hold f (List.mem_of_getElem? hf)
      have : starts since (rest.drop i) = true := starts_of (f := f) (by rw [List.getElem?_drop, Nat.add_zero]; exact hf) h1 fun j hj => by
        obtain ⟨p, hp, hp1, hp2⟩ := h2 j hj
        rcases hrel (i + j) with e | ⟨hi, e | e⟩
        · rw [e] at hp
          exact ⟨p, by rw [List.getElem?_drop]; exact hp, hp1, hp2⟩
        · rw [e] at hp
          injection hp with hp
          rw [← hp, (hnew (i + j)).1] at hp1
          omega
        · rw [e] at hp
          injection hp with hp
          rw [← hp] at hp1
          have : Pc.no.stamp = 0 := rfl
          omega
      rw [hq i] at this
      cases this
    · rw [e] at hf
      injection hf with hf
      have hp := nblocks_pos f.len
      obtain ⟨p, hp, hp1, hp2⟩ := h2 0 (by omega)
      rw [Nat.add_zero, e] at hp
      injection hp with hp
      rw [← hp, (hnew i).2.1] at hp2
      subst hp2
      refine hnot fun j hj => ?_
      obtain ⟨p, hp, hp1, hp2⟩ := h2 j (by rw [← hf, (hnew 0).2.2]; exact hj)
      rw [Nat.zero_add] at hp
      rw [← hf, (hnew 0).1] at hp1
      rcases hrel j with e | ⟨_, e | e⟩
      · rw [e] at hp
        have := hold p (List.mem_of_getElem? hp)
        omega
      · exact e
      · rw [e] at hp
        injection hp with hp
        rw [← hp] at hp1
        have : Pc.no.stamp = 0 := rfl
        omega
    · rw [e] at hf
      injection hf with hf
      rw [← hf] at h1
      have : Pc.no.stamp = 0 := rfl
      omega

theorem LI.stays {L L' : List Cn} {slot : Nat} {m : Mk} {stamp st : Nat} {srs : List (Nat × List Int)} (h : LI L slot m stamp srs) (hlen : L'.length = L.length) (hf : Go.Proofs.Ythpbcibjohakkaa.findM L' = Go.Proofs.Ythpbcibjohakkaa.findM L) (hle : stamp ≤ st) (hst : st ≤ maxSt)
    (hlies : ∃ rest, areaP L' (areaSize L.length) m.area = recsP srs ++ rest ∧ Quiet m.since rest) (hall : ∀ i, i < 2 * areaSize L.length → (pieceAt L' i).stamp ≤ st) : LI L' slot m st srs :=
  ⟨by rw [hlen]; exact h.lo, by rw [hlen]; exact h.hi, by rw [hf]; exact h.mark, h.pos, Nat.le_trans h.since hle, hst, fun x hx => ⟨(h.recs x hx).1, Nat.le_trans (h.recs x hx).2 hle⟩, by rw [hlen]; exact hlies, by rw [hlen]; exact hall⟩
theorem Mixed.all {L L' : List Cn} {zs : List Int} {stamp k a at_ : Nat} (h : Mixed L (layW zs (stamp + 1) k a at_) L') (hs : stamp + 1 ≤ maxSt) (hl : zs.length ≤ 65536) (hb : ∀ z ∈ zs, 0 ≤ z ∧ z ≤ 255) (N : Nat) (hN : 2 + N ≤ L.length)
    (hall : ∀ i, i < N → (pieceAt L i).stamp ≤ stamp) : ∀ i, i < N → (pieceAt L' i).stamp ≤ stamp + 1 := by
  intro i hi
  rcases h.piece hs hl hb i (by omega) with e | ⟨j, _, _, e | e⟩
  · rw [e]; have := hall i hi; omega
  · rw [e]; exact Nat.le_refl _
  · rw [e]; exact Nat.zero_le _

set_option maxHeartbeats 1000000 in
/-- An Append that the power met. -/
theorem LI.mixed_append {L L' : List Cn} {slot : Nat} {m : Mk} {stamp : Nat} {srs : List (Nat × List Int)} (h : LI L slot m stamp srs) (zs : List Int) (hs : stamp + 1 ≤ maxSt) (hl : zs.length ≤ 65536) (hb : ∀ z ∈ zs, 0 ≤ z ∧ z ≤ 255)
    (hfit : usedOf (srs.map (·.2)) + nblocks zs.length ≤ areaSize L.length) (hm : Mixed L (layW zs (stamp + 1) (areaSize L.length) m.area (usedOf (srs.map (·.2)))) L') :
    LI L' slot m (stamp + 1) srs ∨ LI L' slot m (stamp + 1) (srs ++ [(stamp + 1, zs)]) := by
  have h2 := two_area L.length h.lo
  have hfm := hm.findM (layW_ge _ _ _ _ _)
  have hall := hm.all hs hl hb (2 * areaSize L.length) h2.1 h.all
  have hak : m.area * areaSize L.length ≤ areaSize L.length := by have := Nat.mul_le_mul_right (areaSize L.length) h.area.1; omega
  obtain ⟨rest, hr, hq⟩ := h.lies
  obtain ⟨k, hk⟩ : ∃ k, areaSize L.length = k := ⟨_, rfl⟩
  obtain ⟨u, hu⟩ : ∃ u, usedOf (srs.map (·.2)) = u := ⟨_, rfl⟩
  have hrl : (recsP srs).length = u := by rw [recsP_len, hu]
  have hlies := h.lies
  have hstays := h.stays (st := stamp + 1) hm.len hfm (by omega) hs
  rw [hk] at hstays hall h2 hak
  have hA : ∀ i, i < k → (areaP L k m.area)[i]? = some (pieceAt L (m.area * k + i)) := fun i hi => areaP_get _ _ _ _ hi
  have hA' : ∀ i, i < k → (areaP L' k m.area)[i]? = some (pieceAt L' (m.area * k + i)) := fun i hi => areaP_get _ _ _ _ hi
  have holdp : ∀ i, i < 2 * k → (pieceAt L i).stamp ≤ stamp := by have := h.all; rw [hk] at this; exact this
  rw [hk, hu] at hm hfit
  rw [hk] at hr
  have hrest : ∀ j, j < k - u → rest[j]? = some (pieceAt L (m.area * k + (u + j))) := fun j hj => by
    have := hA (u + j) (by omega)
    rw [hr, List.getElem?_append_right (by omega), hrl, show u + j - u = j from by omega] at this
    exact this
  have hrestl : rest.length = k - u := by
    have := congrArg List.length hr
    rw [areaP_len, List.length_append, hrl] at this
    omega
  obtain ⟨rest', hre⟩ : ∃ r, (areaP L' k m.area).drop u = r := ⟨_, rfl⟩
  have hre2 : areaP L' k m.area = recsP srs ++ rest' := by
    have hl2 : (areaP L' k m.area).take u = recsP srs := by
      apply List.ext_getElem?
      intro i
      by_cases hi : i < u
      · rw [List.getElem?_take, if_pos hi, hA' i (by omega)]
        have h1 := hA i (by omega)
        rw [hr, List.getElem?_append_left (by omega)] at h1
        rw [h1]
        refine congrArg some (hm.pieceOut _ fun x hx => ?_)
        obtain ⟨j, hj, e⟩ := layW_at _ _ _ _ _ x hx
        omega
      · rw [List.getElem?_take, if_neg hi, List.getElem?_eq_none (by omega)]
    rw [← hre, ← hl2, List.take_append_drop]
  have hrest' : ∀ j, j < k - u → rest'[j]? = some (pieceAt L' (m.area * k + (u + j))) := fun j hj => by
    rw [← hre, List.getElem?_drop]
    exact hA' (u + j) (by omega)
  have hrestl' : rest'.length = k - u := by rw [← hre, List.length_drop, areaP_len]
  by_cases hyes : ∀ j, j < nblocks zs.length → rest'[j]? = some ⟨stamp + 1, zs.length, j, chunk zs j⟩
  · right
    have hrp : rest' = recP (stamp + 1) zs ++ rest.drop (nblocks zs.length) := by
      apply List.ext_getElem?
      intro i
      by_cases hi : i < nblocks zs.length
      · rw [hyes i hi, List.getElem?_append_left (by rw [recP_len]; exact hi), recP_get _ _ _ hi]
      · rw [List.getElem?_append_right (by rw [recP_len]; omega), recP_len, List.getElem?_drop, show nblocks zs.length + (i - nblocks zs.length) = i from by omega]
        by_cases hi2 : i < k - u
        · rw [hrest' i hi2, hrest i hi2]
          refine congrArg some (hm.pieceOut _ fun x hx => ?_)
          obtain ⟨j, hj, e⟩ := layW_at _ _ _ _ _ x hx
          omega
        · rw [List.getElem?_eq_none (by omega), List.getElem?_eq_none (by omega)]
    refine ⟨by rw [hm.len]; exact h.lo, by rw [hm.len]; exact h.hi, by rw [hfm]; exact h.mark, h.pos, Nat.le_trans h.since (by omega), hs, fun x hx => ?_, ?_, by rw [hm.len, hk]; exact hall⟩
    · rcases List.mem_append.1 hx with hx | hx
      · have := h.recs x hx
        exact ⟨this.1, by omega⟩
      · rw [List.mem_singleton.1 hx]
        exact ⟨Nat.le_trans h.since (by simp), Nat.le_refl _⟩
    · rw [hm.len, hk]
      exact ⟨rest.drop (nblocks zs.length), by rw [hre2, hrp, recsP_snoc, List.append_assoc], hq.drop _⟩
  · left
    refine hstays ⟨rest', hre2, quiet_mixed (since := m.since) (st := stamp + 1) (n0 := zs.length) (rest := rest) (fun j => ⟨stamp + 1, zs.length, j, chunk zs j⟩) (fun j => ⟨rfl, rfl, rfl⟩) (fun j => ?_) (fun p hp => ?_) h.pos (Nat.le_trans h.since (by omega)) hq hyes⟩ hall
    · by_cases hj : j < k - u
      · rw [hrest' j hj, hrest j hj]
        rcases hm.piece hs hl hb (m.area * k + (u + j)) (by omega) with e | ⟨i, hi, e1, e2⟩
        · exact .inl (by rw [e])
        · obtain rfl : i = j := by omega
          exact .inr ⟨hi, e2.imp (fun e => by rw [e]) (fun e => by rw [e])⟩
      · exact .inl (by rw [List.getElem?_eq_none (by omega), List.getElem?_eq_none (by omega)])
    · obtain ⟨j, hj⟩ := List.getElem?_of_mem hp
      have hjl := (List.getElem?_eq_some_iff.1 hj).1
      rw [hrest j (by omega)] at hj
      injection hj with hj
      rw [← hj]
      have := holdp (m.area * k + (u + j)) (by omega)
      omega

/-- A Checkpoint that the power met ahead of its mark. -/
theorem LI.mixed_check {L L' : List Cn} {slot : Nat} {m : Mk} {stamp : Nat} {srs : List (Nat × List Int)} (h : LI L slot m stamp srs) (zs : List Int) (hs : stamp + 1 ≤ maxSt) (hl : zs.length ≤ 65536) (hb : ∀ z ∈ zs, 0 ≤ z ∧ z ≤ 255)
    (hfit : nblocks zs.length ≤ areaSize L.length) (hm : Mixed L (layW zs (stamp + 1) (areaSize L.length) (1 - m.area) 0) L') : LI L' slot m (stamp + 1) srs := by
  have h2 := two_area L.length h.lo
  have ha := h.area.1
  refine h.stays hm.len (hm.findM (layW_ge _ _ _ _ _)) (by omega) hs ?_ (hm.all hs hl hb _ h2.1 h.all)
  rw [hm.areaOut]
  · exact h.lies
  · intro x hx i hi
    obtain ⟨j, hj, e⟩ := layW_at _ _ _ _ _ x hx
    have hc : m.area = 0 ∨ m.area = 1 := by omega
    rcases hc with hc | hc <;> rw [hc] at e ⊢ <;> simp only [Nat.zero_mul, Nat.one_mul, Nat.sub_zero, Nat.sub_self] at e ⊢ <;> omega

theorem findM_tear (L : List Cn) (slot : Nat) (m : Mk) (hf : findM L = (slot, m)) (hp : 0 < m.since) (b : List Int) (hl : 2 ≤ L.length) : findM (L.set (1 - slot) ⟨b, true⟩) = (slot, m) := by
  have hf2 := hf
  rw [findM_eq] at hf2
  unfold pickM at hf2
  have hm : slot ≤ 1 ∧ markAt L slot = m := by
    cases hA : (markAt L 0).newer Mk.no with
    | true =>
      rw [hA] at hf2
      simp only [cond_true] at hf2
      cases hB : (markAt L 1).newer (markAt L 0) with
      | true =>
        rw [hB] at hf2
        simp only [cond_true, Prod.mk.injEq] at hf2
        obtain ⟨rfl, rfl⟩ := hf2
        exact ⟨by omega, rfl⟩
      | false =>
        rw [hB] at hf2
        simp only [cond_false, Prod.mk.injEq] at hf2
        obtain ⟨rfl, rfl⟩ := hf2
        exact ⟨by omega, rfl⟩
    | false =>
      rw [hA] at hf2
      simp only [cond_false] at hf2
      cases hB : (markAt L 1).newer Mk.no with
      | true =>
        rw [hB] at hf2
        simp only [cond_true, Prod.mk.injEq] at hf2
        obtain ⟨rfl, rfl⟩ := hf2
        exact ⟨by omega, rfl⟩
      | false =>
        rw [hB] at hf2
        simp only [cond_false, Prod.mk.injEq] at hf2
        obtain ⟨rfl, rfl⟩ := hf2
        simp [Mk.no] at hp
  obtain ⟨hsl, hm⟩ := hm
  have hnew : markAt (L.set (1 - slot) ⟨b, true⟩) (1 - slot) = Mk.no := by
    unfold markAt
    rw [List.length_set, List.getD_eq_getElem?_getD, List.getElem?_set_self (by omega), Option.getD_some, blockC_torn, takeMark_nil]
  have hold : markAt (L.set (1 - slot) ⟨b, true⟩) slot = m := by
    rw [← hm]
    unfold markAt
    rw [List.length_set, List.getD_eq_getElem?_getD, List.getD_eq_getElem?_getD, List.getElem?_set_ne (by omega)]
  have k1 : m.newer Mk.no = true := by simp [Mk.newer, Mk.no, hp]
  have k2 : Mk.no.newer m = false := by simp [Mk.newer, Mk.no]
  have k3 : Mk.no.newer Mk.no = false := by simp [Mk.newer, Mk.no]
  rw [findM_eq]
  unfold pickM
  have hc : slot = 0 ∨ slot = 1 := by omega
  rcases hc with rfl | rfl
  · simp only [Nat.sub_zero] at hnew hold ⊢
    rw [hold, hnew, k1, k2]
    rfl
  · simp only [Nat.sub_self] at hnew hold ⊢
    rw [hold, hnew, k3, k1]
    rfl
theorem pieceAt_set (L : List Cn) (i j : Nat) (c : Cn) (h : j < 2) : pieceAt (L.set j c) i = pieceAt L i := by
  unfold pieceAt
  rw [List.getD_eq_getElem?_getD, List.getD_eq_getElem?_getD, List.getElem?_set_ne (by omega)]
theorem LI.tear {L : List Cn} {slot : Nat} {m : Mk} {stamp : Nat} {srs : List (Nat × List Int)} (h : LI L slot m stamp srs) (b : List Int) : LI (L.set (1 - slot) ⟨b, true⟩) slot m stamp srs := by
  have hlo := h.lo
  refine h.stays (List.length_set ..) (by rw [findM_tear L slot m h.mark h.pos b (by omega), h.mark]) (Nat.le_refl _) h.top ?_ (fun i hi => by rw [pieceAt_set _ _ _ _ (by omega)]; exact h.all i hi)
  obtain ⟨rest, hr, hq⟩ := h.lies
  refine ⟨rest, ?_, hq⟩
  rw [← hr]
  unfold areaP
  apply List.map_congr_left
  intro i _
  exact pieceAt_set _ _ _ _ (by omega)
/-- One write, as it may lie. -/
theorem mixed_one {L L' : List Cn} {n : Nat} {b : List Int} (h : Mixed L [(n, b)] L') (hn : n < L.length) : L' = L ∨ L' = L.set n ⟨b, false⟩ ∨ L' = L.set n ⟨zero64, true⟩ := by
  have oth : ∀ i, i ≠ n → L'[i]? = L[i]? := fun i hi => by
    by_cases hl : i < L.length
    · exact h.get i hl fun x hx => by rw [List.mem_singleton.1 hx]; exact fun e => hi e.symm
    · rw [List.getElem?_eq_none (by rw [h.len]; omega), List.getElem?_eq_none (by omega)]
  have put : ∀ c, L'[n]? = some c → L' = L.set n c := fun c hc => by
    apply List.ext_getElem?
    intro i
    by_cases e : n = i
    · subst e
      rw [hc, List.getElem?_set_self hn]
    · rw [List.getElem?_set_ne e]
      exact oth i (fun x => e x.symm)
  rcases h.at_ n hn with e | ⟨b2, hb, e⟩
  · left
    apply List.ext_getElem?
    intro i
    by_cases e2 : n = i
    · subst e2; exact e
    · exact oth i (fun x => e2 x.symm)
  · right
    have hb := List.mem_singleton.1 hb
    injection hb with _ hb
    subst hb
    exact e.imp (put _) (put _)
/-- A Checkpoint that the power met at its mark. -/
theorem LI.mixed_turn {L L' : List Cn} {slot : Nat} {m : Mk} {stamp : Nat} {srs : List (Nat × List Int)} (h : LI L slot m stamp srs) (zs : List Int) (hs : stamp + 1 ≤ maxSt) (hl : zs.length ≤ 65536) (hb : ∀ z ∈ zs, 0 ≤ z ∧ z ≤ 255)
    (hfit : nblocks zs.length ≤ areaSize L.length) (hm : Mixed (overW L (layW zs (stamp + 1) (areaSize L.length) (1 - m.area) 0)) (turnW slot ⟨m.next, 1 - m.area, stamp + 1⟩ (areaSize L.length)) L') :
    LI L' slot m (stamp + 1) srs ∨ LI L' (1 - slot) ⟨m.next, 1 - m.area, stamp + 1⟩ (stamp + 1) [(stamp + 1, zs)] := by
  have hck := h.check zs hs hl hb hfit
  have hlo := h.lo
  have hkeep : ∀ x ∈ layW zs (stamp + 1) (areaSize L.length) (1 - m.area) 0, True := fun _ _ => trivial
  have h1 : LI (overW L (layW zs (stamp + 1) (areaSize L.length) (1 - m.area) 0)) slot m (stamp + 1) srs := by
    refine h.mixed_check zs hs hl hb hfit ?_
    have := mixed_pend L (layW zs (stamp + 1) (areaSize L.length) (1 - m.area) 0) (layW zs (stamp + 1) (areaSize L.length) (1 - m.area) 0).length (ones (layW zs (stamp + 1) (areaSize L.length) (1 - m.area) 0).length)
    rwa [List.take_length, layAll_overW] at this
  generalize overW L (layW zs (stamp + 1) (areaSize L.length) (1 - m.area) 0) = L1 at hm hck h1
  have hlo1 := h1.lo
  rcases mixed_one (n := 1 - slot) (b := blockOf (markB ⟨m.next, 1 - m.area, stamp + 1⟩ (areaSize L.length))) hm (by omega) with rfl | rfl | rfl
  · exact .inl h1
  · exact .inr hck
  · exact .inl (h1.tear _)

/-- What Open may find behind a loss of power: the records as they were, or with the one that was met. -/
def Alts (L : List Cn) (pend : List Wr) (stamp : Nat) (rs alt : List (List Int)) : Prop := ∀ ks : List Int, ∃ slot m srs, LI (layAll L pend ks) slot m stamp srs ∧ (srs.map (·.2) = rs ∨ srs.map (·.2) = alt)
end Go.Proofs.Ythpbcibjohakkaa
