import Derived.Test.YthpbcibjohakkaaJBD
import Derived.Test.YthpbcibjohakkaaJBC
/- What a log's blocks hold, over plain lists: LI, kept by Format, Append and Checkpoint that nothing breaks, and told by Open.
   gather_rec: a record that stands in front is told. Quiet since rest: no whole counting record stands anywhere in rest. -/
namespace Go.Proofs.Ythpbcibjohakkaa
set_option maxRecDepth 100000
set_option maxRecDepth 100000
open Go.RowKit

theorem putB_chunk (zs : List Int) (i : Nat) (h : i * 40 ≤ zs.length) :
    putB (zs.take (i * 40) ++ List.replicate (zs.length - i * 40) 0) (i * 40) (chunk zs i) = zs.take ((i + 1) * 40) ++ List.replicate (zs.length - (i + 1) * 40) 0 := by
  have hc := chunk_len zs i h
  have ht : (zs.take (i * 40)).length = i * 40 := by rw [List.length_take]; omega
  have hlen : (zs.take (i * 40) ++ List.replicate (zs.length - i * 40) (0 : Int)).length = zs.length := by rw [List.length_append, ht, List.length_replicate]; omega
  unfold putB
  rw [hlen, List.take_of_length_le (l := chunk zs i) (by omega)]
  unfold splice
  rw [List.take_left' ht, List.drop_append, ht, List.drop_of_length_le (by omega : (zs.take (i * 40)).length ≤ _), List.nil_append, List.drop_replicate]
  rw [show (i + 1) * 40 = i * 40 + 40 from by omega, List.take_add, List.append_assoc]
  congr 1
  have e : chunk zs i = (zs.drop (i * 40)).take 40 := by
    unfold chunk
    rw [List.take_eq_take_iff, List.length_drop]
    omega
  rw [hc, ← e]
  congr 2
  omega
theorem build_chunks (st : Nat) (zs : List Int) : ∀ (c i : Nat), i + c = nblocks zs.length →
    buildRec (zs.take (i * 40) ++ List.replicate (zs.length - i * 40) 0) i ((List.range' i c).map fun j => ⟨st, zs.length, j, chunk zs j⟩) = zs
  | 0, i, h => by
    have hn : zs.length ≤ i * 40 := by
      have h1 : nblocks zs.length ≤ i := by omega
      have := nblocks_inv h1
      omega
    simp only [List.range'_zero, List.map_nil, buildRec]
    rw [List.take_of_length_le hn, Nat.sub_eq_zero_of_le hn]
    simp
  | c + 1, i, h => by
    rw [List.range'_succ, List.map_cons, buildRec]
    simp only
    rw [putB_chunk zs i (nblocks_lt _ _ (by omega))]
    exact build_chunks st zs c (i + 1) (by omega)
theorem recP_pos (st : Nat) (zs : List Int) : recP st zs = ⟨st, zs.length, 0, chunk zs 0⟩ :: (recP st zs).drop 1 := by
  have hp := nblocks_pos zs.length
  have h0 := recP_get st zs 0 (by omega)
  have hne : recP st zs ≠ [] := by intro e; rw [e] at h0; simp at h0
  cases hr : recP st zs with
  | nil => exact absurd hr hne
  | cons a t =>
    rw [hr] at h0
    simp only [List.getElem?_cons_zero, Option.some.injEq] at h0
    subst h0
    rfl
theorem recP_head (st : Nat) (zs : List Int) (tail : List Pc) : ((recP st zs ++ tail).headD Pc.no).len = zs.length := by
  rw [recP_pos]; rfl
theorem recOf_rec (st : Nat) (zs : List Int) (tail : List Pc) : recOf (recP st zs ++ tail) = zs := by
  unfold recOf
  rw [recP_head, List.take_left' (recP_len st zs)]
  have := build_chunks st zs (nblocks zs.length) 0 (by omega)
  simp only [Nat.zero_mul, List.take_zero, List.nil_append, Nat.sub_zero] at this
  unfold recP
  rw [List.range_eq_range']
  exact this
theorem starts_rec (since st : Nat) (zs : List Int) (tail : List Pc) (h : since ≤ st) : starts since (recP st zs ++ tail) = true := by
  have hl : nblocks zs.length ≤ (recP st zs ++ tail).length := by rw [List.length_append, recP_len]; omega
  have hg : ∀ i, i < nblocks zs.length → (recP st zs ++ tail).getD i Pc.no = ⟨st, zs.length, i, chunk zs i⟩ := by
    intro i hi
    rw [List.getD_eq_getElem?_getD, List.getElem?_append_left (by rw [recP_len]; omega), recP_get st zs i hi]
    rfl
  have hc : recP st zs ++ tail = ⟨st, zs.length, 0, chunk zs 0⟩ :: ((recP st zs).drop 1 ++ tail) := by
    conv => lhs; rw [recP_pos]
    rfl
  generalize recP st zs ++ tail = ps at *
  subst hc
  unfold starts
  simp only [Bool.and_eq_true, decide_eq_true_eq, List.all_eq_true, List.mem_range]
  refine ⟨⟨h, hl⟩, fun i hi => ?_⟩
  rw [hg i hi]
  exact ⟨rfl, rfl⟩
theorem gather_rec (since st : Nat) (zs : List Int) (tail : List Pc) (h : since ≤ st) : gather since (recP st zs ++ tail) = zs :: gather since tail := by
  rw [gather_yes (starts_rec since st zs tail h), recOf_rec, recP_head, List.drop_left' (recP_len st zs)]

/-- No whole record that counts stands in rest. -/
def Quiet (since : Nat) (rest : List Pc) : Prop := ∀ i, starts since (rest.drop i) = false
theorem Quiet.drop {since : Nat} {rest : List Pc} (h : Quiet since rest) (n : Nat) : Quiet since (rest.drop n) := fun i => by rw [List.drop_drop]; exact h _
theorem quiet_old (since : Nat) (rest : List Pc) (h : ∀ p ∈ rest, p.stamp < since) : Quiet since rest := fun i => by
  cases hd : rest.drop i with
  | nil => rfl
  | cons f t =>
    have hm : f ∈ rest := List.mem_of_mem_drop (i := i) (by rw [hd]; exact List.mem_cons_self ..)
    have := h f hm
    unfold starts
    simp only
    rw [decide_eq_false (by omega)]
    simp
theorem Quiet.gather {since : Nat} {rest : List Pc} (h : Quiet since rest) : gather since rest = [] := gather_no (by have := h 0; rwa [List.drop_zero] at this)

def recsP (srs : List (Nat × List Int)) : List Pc := srs.flatMap fun x => recP x.1 x.2
theorem recsP_len : ∀ srs : List (Nat × List Int), (recsP srs).length = usedOf (srs.map (·.2))
  | [] => rfl
  | x :: srs => by
    have := recsP_len srs
    unfold recsP usedOf at *
    rw [List.flatMap_cons, List.length_append, recP_len, this]
    simp
theorem recsP_snoc (srs : List (Nat × List Int)) (st : Nat) (zs : List Int) : recsP (srs ++ [(st, zs)]) = recsP srs ++ recP st zs := by simp [recsP]
theorem gather_recs (since : Nat) : ∀ (srs : List (Nat × List Int)) (rest : List Pc), (∀ x ∈ srs, since ≤ x.1) → gather since (recsP srs ++ rest) = srs.map (·.2) ++ gather since rest
  | [], _, _ => rfl
  | x :: srs, rest, h => by
    have ih := gather_recs since srs rest fun y hy => h y (List.mem_cons_of_mem _ hy)
    have e : recsP (x :: srs) ++ rest = recP x.1 x.2 ++ (recsP srs ++ rest) := by simp [recsP]
    rw [e, gather_rec since x.1 x.2 _ (h x (List.mem_cons_self ..)), ih]
    rfl

/-- A log's blocks: its mark, its newest stamp, its records with their stamps. -/
structure LI (L : List Cn) (slot : Nat) (m : Mk) (stamp : Nat) (srs : List (Nat × List Int)) : Prop where
  lo : 6 ≤ L.length
  hi : L.length ≤ 16384
  mark : findM L = (slot, m)
  pos : 0 < m.since
  since : m.since ≤ stamp
  top : stamp ≤ maxSt
  recs : ∀ x ∈ srs, m.since ≤ x.1 ∧ x.1 ≤ stamp
  lies : ∃ rest, areaP L (areaSize L.length) m.area = recsP srs ++ rest ∧ Quiet m.since rest
  all : ∀ i, i < 2 * areaSize L.length → (pieceAt L i).stamp ≤ stamp

theorem area_le {n : Nat} (h : n ≤ 16384) : areaSize n ≤ 16384 := by unfold areaSize; omega
theorem LI.area {L : List Cn} {slot : Nat} {m : Mk} {stamp : Nat} {srs : List (Nat × List Int)} (h : LI L slot m stamp srs) : m.area ≤ 1 ∧ m.turn ≤ 2 := by
  have := findS_turn L 2
  have hm := h.mark
  unfold findM at hm
  rw [hm] at this
  exact ⟨this.2.1, this.1⟩
theorem LI.used {L : List Cn} {slot : Nat} {m : Mk} {stamp : Nat} {srs : List (Nat × List Int)} (h : LI L slot m stamp srs) : usedOf (srs.map (·.2)) ≤ areaSize L.length := by
  obtain ⟨rest, hr, _⟩ := h.lies
  have := congrArg List.length hr
  rw [areaP_len, List.length_append, recsP_len] at this
  omega
/-- Open tells the records. -/
theorem LI.opens {L : List Cn} {slot : Nat} {m : Mk} {stamp : Nat} {srs : List (Nat × List Int)} (h : LI L slot m stamp srs) : openRecs L = srs.map (·.2) := by
  obtain ⟨rest, hr, hq⟩ := h.lies
  unfold openRecs
  rw [h.mark]
  simp only
  rw [areaP_of L _ _ h.area.1, hr, gather_recs _ _ _ (fun x hx => (h.recs x hx).1), hq.gather, List.append_nil]
theorem topStamp_ge (since : Nat) (ps : List Pc) : since ≤ topStamp since ps ∧ ∀ p ∈ ps, p.stamp ≤ topStamp since ps := by
  induction ps generalizing since with
  | nil => exact ⟨Nat.le_refl _, fun p hp => by simp at hp⟩
  | cons q ps ih =>
    have e : topStamp since (q :: ps) = topStamp (max since q.stamp) ps := rfl
    rw [e]
    have := ih (max since q.stamp)
    refine ⟨by omega, fun p hp => ?_⟩
    rcases List.mem_cons.1 hp with rfl | hp
    · omega
    · exact this.2 p hp
theorem topStamp_most (since b : Nat) (ps : List Pc) (h : since ≤ b) (hp : ∀ p ∈ ps, p.stamp ≤ b) : topStamp since ps ≤ b := by
  induction ps generalizing since with
  | nil => exact h
  | cons q ps ih =>
    have e : topStamp since (q :: ps) = topStamp (max since q.stamp) ps := rfl
    rw [e]
    exact ih _ (Nat.max_le.2 ⟨h, hp q (List.mem_cons_self ..)⟩) fun p hh => hp p (List.mem_cons_of_mem _ hh)
/-- A log that Open made stands as it stood. -/
theorem LI.opened {L : List Cn} {slot : Nat} {m : Mk} {stamp : Nat} {srs : List (Nat × List Int)} (h : LI L slot m stamp srs) : LI L slot m (topStamp m.since (piecesOf L (2 * areaSize L.length))) srs := by
  have hge := topStamp_ge m.since (piecesOf L (2 * areaSize L.length))
  have hmem : ∀ i, i < 2 * areaSize L.length → pieceAt L i ∈ piecesOf L (2 * areaSize L.length) := fun i hi => List.mem_map.2 ⟨i, List.mem_range.2 hi, rfl⟩
  have hle : topStamp m.since (piecesOf L (2 * areaSize L.length)) ≤ stamp := topStamp_most _ _ _ h.since fun p hp => by
    unfold piecesOf at hp
    obtain ⟨i, hi, rfl⟩ := List.mem_map.1 hp
    exact h.all i (List.mem_range.1 hi)
  refine ⟨h.lo, h.hi, h.mark, h.pos, hge.1, Nat.le_trans hle h.top, fun x hx => ⟨(h.recs x hx).1, ?_⟩, h.lies, fun i hi => hge.2 _ (hmem i hi)⟩
  obtain ⟨rest, hr, _⟩ := h.lies
  have hin : (⟨x.1, x.2.length, 0, chunk x.2 0⟩ : Pc) ∈ areaP L (areaSize L.length) m.area := by
    rw [hr]
    refine List.mem_append_left _ (List.mem_flatMap.2 ⟨x, hx, ?_⟩)
    rw [recP_pos]
    exact List.mem_cons_self ..
  unfold areaP at hin
  obtain ⟨i, hi, e⟩ := List.mem_map.1 hin
  have hi := List.mem_range.1 hi
  have hak : m.area * areaSize L.length ≤ areaSize L.length := by have := Nat.mul_le_mul_right (areaSize L.length) h.area.1; omega
  have := hge.2 _ (hmem (m.area * areaSize L.length + i) (by omega))
  rw [e] at this
  exact this
end Go.Proofs.Ythpbcibjohakkaa

/- Format, while the power is there. -/
namespace Go.Proofs.Ythpbcibjohakkaa
set_option maxRecDepth 100000
set_option maxRecDepth 100000
open Go.RowKit

theorem wipeW_in (size a n : Nat) (ha : a ≤ 1) (hn : 2 + 2 * size ≤ n) : ∀ x ∈ wipeW size a, x.1 < n ∧ x.2.length = 64 := by
  intro x hx
  unfold wipeW at hx
  obtain ⟨i, hi, rfl⟩ := List.mem_map.1 hx
  have := List.mem_range.1 hi
  refine ⟨?_, by simp [zero64]⟩
  have : a * size ≤ size := by
    have := Nat.mul_le_mul_right size ha
    omega
  simp only
  omega
theorem turnW_in (slot n : Nat) (m : Mk) (size : Nat) (hn : 2 ≤ n) (hl : (markB m size).length ≤ 56) : ∀ x ∈ turnW slot m size, x.1 < n ∧ x.2.length = 64 := by
  intro x hx
  simp only [turnW, List.mem_singleton] at hx
  subst hx
  exact ⟨by simp only; omega, blockOf_len _ hl⟩
theorem area_fits (n : Nat) (h : 6 ≤ n) : 2 + 2 * areaSize n ≤ n := by unfold areaSize; omega

/-- What Format writes. -/
def fmtW (L : List Cn) : List (Nat × List Int) :=
  wipeW (areaSize L.length) (1 - (findM L).2.area) ++ (turnW (findM L).1 ⟨(findM L).2.next, 1 - (findM L).2.area, 1⟩ (areaSize L.length) ++ wipeW (areaSize L.length) (findM L).2.area)
def FormatIs (F : Nat → Prop) (w : World) (d : Nat) (S : St) (e : Ending) (w' : World) : Prop :=
  ∃ L S', e = .returned (.tuple #[.pointer (some ⟨L, 0, none⟩), .int .i64 0]) ∧ PD (fun k => Gr F w k ∧ k ≠ L) w' d S' ∧ Calm S' ∧ S'.last = overW S.last (fmtW S.last) ∧
    LgAt w' L d (areaSize S.last.length) (1 - (findM S.last).1) ⟨(findM S.last).2.next, 1 - (findM S.last).2.area, 1⟩ 1 0 0 false ∧ w.heap.size ≤ L ∧ Out F w w' ∧
    (0 ≤ S.writes → S.writes ≤ 1000000 → 0 ≤ S'.writes ∧ S'.writes ≤ S.writes + 40000)

set_option maxHeartbeats 8000000 in
theorem wformat {F : Nat → Prop} {w : World} {d : Nat} {S : St} (h : PD F w d S) (hc : Calm S) (hn : 6 ≤ S.last.length) :
    Calls Try.prog 18 #[.pointer (some ⟨d, 0, none⟩)] w (FormatIs F w d S) := by
  have hwf := h.wf
  have CF := Lib.hid (wfind h hc.off hc.pend hn)
  obtain ⟨ht2, ha1, -, hs2⟩ := findS_turn S.last 2
  have hs1 : (findM S.last).1 ≤ 1 := by
    unfold findM findS
    split
    · simp
    · have := (findS_turn S.last 1).2.2.2; exact this
  have hsize := area_fits _ hn
  have hhi := hwf.hi
  have hlen := Lib.hid (show S.last.length ≤ 16384 from hhi)
  unfold FindIs at CF
  unfold FormatIs fmtW
  change (findM S.last).2.turn ≤ 2 at ht2
  change (findM S.last).2.area ≤ 1 at ha1
  obtain ⟨⟨slot, m⟩, hfm⟩ : ∃ x, findM S.last = x := ⟨_, rfl⟩
  rw [hfm] at CF ht2 ha1 hs1 ⊢
  simp only at CF ht2 ha1 hs1 ⊢
  obtain ⟨size, hsz⟩ : ∃ x, areaSize S.last.length = x := ⟨_, rfl⟩
  rw [hsz] at CF hsize ⊢
  obtain ⟨oa, hoa⟩ : ∃ x, 1 - m.area = x := ⟨_, rfl⟩
  rw [hoa]
  have hoa1 : oa ≤ 1 := by omega
  have hsz1 : size ≤ 16384 := by have := hlen.out; omega
  have EA := Lib.hid (show (1 : Int) - (m.area : Int) = (oa : Int) by omega)
  have hai : (m.area : Int) ≤ 1 := by omega
  have hmn : m.next ≤ 2 := by unfold Mk.next; omega
  obtain ⟨S1, hR1, hC1, hL1⟩ := runWS_calm S (wipeW size oa) hc (wipeW_in size oa _ hoa1 hsize)
  obtain ⟨S2, hR2, hC2, hL2⟩ := runWS_calm S1 (turnW slot ⟨m.next, oa, 1⟩ size) hC1 (turnW_in slot _ _ size (by rw [hL1, overW_len]; omega) (markB_len ⟨m.next, oa, 1⟩ size hsz1 hmn hoa1 (by unfold maxSt; simp)))
  obtain ⟨S3, hR3, hC3, hL3⟩ := runWS_calm S2 (wipeW size m.area) hC2 (wipeW_in size m.area _ ha1 (by rw [hL2, overW_len, hL1, overW_len]; exact hsize))
  have HWR := Lib.hid (show 0 ≤ S.writes → S.writes ≤ 1000000 → 0 ≤ S3.writes ∧ S3.writes ≤ S.writes + 40000 from fun h0 h1 => by
    have l1 := wipeW_len size oa
    have l3 := wipeW_len size m.area
    have w1 := runWS_wr (wipeW size oa) S h0 (by omega)
    rw [hR1] at w1
    simp only at w1
    have w2 := runWS_wr (turnW slot ⟨m.next, oa, 1⟩ size) S1 (by omega) (by simp only [turnW, List.length_singleton]; omega)
    rw [hR2] at w2
    simp only [turnW, List.length_singleton] at w2
    have w3 := runWS_wr (wipeW size m.area) S2 (by omega) (by omega)
    rw [hR3] at w3
    simp only at w3
    omega)
  have HL3 := Lib.hid (show S3.last = overW S.last (wipeW size oa ++ (turnW slot ⟨m.next, oa, 1⟩ size ++ wipeW size m.area)) by rw [hL3, hL2, hL1, overW_app, overW_app])
  have HD := Lib.hid h.shut
  have HR1 := Lib.hid hR1
  have HR2 := Lib.hid hR2
  have HR3 := Lib.hid hR3
  have HP0 := Lib.hid (show S.pend.length ≤ 1000000 by rw [hc.pend]; simp)
  have HP1 := Lib.hid (show S1.pend.length ≤ 1000000 by rw [hC1.pend]; simp)
  have HP2 := Lib.hid (show S2.pend.length ≤ 1000000 by rw [hC2.pend]; simp)
  have HC3 := Lib.hid hC3
  clear h hc hn hwf hhi hsize hfm hsz hoa hR1 hR2 hR3 hL1 hL2 hL3 hC1 hC2 hC3 hs2
  go_enter Try.func18, Try.ntmps18
  go_upto_region 4 with (go_at_call 36; refine CF.out.mono ?_; rintro e w1 ⟨L, rfl, hlg, hLw, hb⟩; have LG1 := Lib.hid hlg; have HLW := Lib.hid hLw; have HB1 := Lib.hid hb; clear hlg hLw hb)
  have c4 := LG1.out.c4
  have NL := Lib.hid (show ¬ ((fun k => F k ∧ k < w.heap.size) L) from fun hh => absurd hh.2 (by have := HLW.out; omega))
  have PD1 := Lib.hid (HD.out.below HB1.out)
  have WP := Lib.hid (wwipe PD1.out LG1.out NL.out oa hoa1 hsz1 HP0.out)
  rw [HR1.out] at WP
  go_upto_region 6 with fail
  rw [EA.out]
  go_upto_region 9 with (go_at_call 37; refine WP.out.mono ?_; rintro e w2 ⟨rfl, hpd, hlg, hout⟩; have PD2 := Lib.hid hpd; have LG2 := Lib.hid hlg; have OU2 := Lib.hid hout; clear hpd hlg hout)
  clear c4
  have c6 := LG2.out.c6
  have f6 := LG2.out.f 6
  have LG3 := Lib.hid (LG2.out.setStamp 1)
  have NL2 := Lib.hid (gr_off (F := fun k => F k ∧ k < w.heap.size) (w := w1) NL.out LG1.out.lt)
  have PD3 := Lib.hid (PD2.out.out (w' := w2.setCell ⟨L, 6, none⟩ (.int .u64 ((1 : Nat) : Int))) (G := fun k => k = L) ((Out.refl (fun k => k = L) w2).setCell (p := ⟨L, 6, none⟩) (.inl rfl) _) (fun k _ hF he => NL2.out (he ▸ hF)))
  have OU3 := Lib.hid (OU2.out.then ((Out.refl (fun k => (F k ∧ k < w.heap.size) ∨ k = L) w2).setCell (p := ⟨L, 6, none⟩) (.inl (.inr rfl)) (.int .u64 ((1 : Nat) : Int))))
  have TT := Lib.hid (wturnTo PD3.out LG3.out NL2.out oa hoa1 hs1 ht2 (by unfold maxSt; omega) hsz1 HP1.out)
  rw [HR2.out] at TT
  go_upto_region 10 with fail
  generalize hW3 : w2.setCell ⟨L, 6, none⟩ (.int .u64 1) = w3
  have e3 : w2.setCell ⟨L, 6, none⟩ (.int .u64 ((1 : Nat) : Int)) = w3 := hW3
  rw [e3] at LG3 PD3 OU3 TT
  clear hW3 e3 c6 f6
  go_upto_region 13 with (go_at_call 38; refine TT.out.mono ?_; rintro e w4 ⟨rfl, hpd, hlg, hout⟩; have PD4 := Lib.hid hpd; have LG4 := Lib.hid hlg; have OU4 := Lib.hid hout; clear hpd hlg hout)
  have LG5 := Lib.hid (show LgAt w4 L d size (1 - slot) ⟨m.next, oa, 1⟩ 1 0 0 false by have h := LG4.out; simpa using h)
  have NL4 := Lib.hid (gr_off (F := Gr (fun k => F k ∧ k < w.heap.size) w1) (w := w3) NL2.out LG3.out.lt)
  have WP2 := Lib.hid (wwipe PD4.out LG5.out NL4.out m.area ha1 hsz1 HP2.out)
  rw [HR3.out] at WP2
  go_wp2_with (go_at_call 37; refine WP2.out.mono ?_; rintro e w5 ⟨rfl, hpd, hlg, hout⟩; have PD6 := Lib.hid hpd; have LG6 := Lib.hid hlg; have OU6 := Lib.hid hout; clear hpd hlg hout)
  go_ret2
  have z1 := HB1.out.size
  have z3 := OU3.out.size
  have z4 := OU4.out.size
  have g6 : ∀ j, Gr (Gr (Gr (fun k => F k ∧ k < w.heap.size) w1) w3) w4 j → Gr F w j := fun j hj => by
    rcases hj with hj | hj
    · rcases hj with hj | hj
      · rcases hj with hj | hj
        · exact .inl hj.1
        · right; omega
      · right; omega
    · right; omega
  refine ⟨L, S3, rfl, PD6.out.mono fun j _ hj => ⟨g6 j hj, ?_⟩, HC3.out, HL3.out, LG6.out, HLW.out, ?_, HWR.out⟩
  · rintro rfl
    exact (gr_off (F := Gr (Gr (fun k => F k ∧ k < w.heap.size) w1) w3) (w := w4) NL4.out LG5.out.lt) hj
  · have hLw := HLW.out
    refine ((((Out.of_below HB1.out F).trans OU3.out fun i hi hj => ?_).trans OU4.out fun i hi hj => ?_).trans OU6.out fun i hi hj => ?_)
    · rcases hj with hj | hj
      · exact hj.1
      · omega
    · rcases hj with hj | hj
      · rcases hj with hj | hj
        · exact hj.1
        · omega
      · omega
    · rcases hj with hj | hj
      · rcases hj with hj | hj
        · rcases hj with hj | hj
          · exact hj.1
          · omega
        · omega
      · omega
end Go.Proofs.Ythpbcibjohakkaa
