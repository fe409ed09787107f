import Derived.Test.YthpbcibjohakkaaLInvD
import Derived.Test.YthpbcibjohakkaaJBC
import Derived.Test.YthpbcibjohakkaaLAppended
/- A log over a calm disk (CLog): Append, Checkpoint, Format, Open. -/
namespace Go.Proofs.Ythpbcibjohakkaa
set_option maxRecDepth 100000
set_option maxRecDepth 100000
open Go.RowKit

/-- The log at L over the disk at d, whose own blocks are F: its records with their stamps. -/
structure CLog (F : Nat → Prop) (w : World) (d L : Nat) (S : St) (slot : Nat) (m : Mk) (stamp : Nat) (srs : List (Nat × List Int)) : Prop where
  pd : PD F w d S
  calm : Calm S
  li : LI S.last slot m stamp srs
  lg : LgAt w L d (areaSize S.last.length) slot m stamp (usedOf (srs.map (·.2))) srs.length false
  out : ¬ F L

theorem findS_slot (L : List Cn) : (findM L).1 ≤ 1 := by
  rw [findM_eq]
  unfold pickM
  cases (markAt L 0).newer Mk.no <;> cases (markAt L 1).newer (markAt L 0) <;> cases (markAt L 1).newer Mk.no <;> simp
theorem LI.slot_le {L : List Cn} {slot : Nat} {m : Mk} {stamp : Nat} {srs : List (Nat × List Int)} (h : LI L slot m stamp srs) : slot ≤ 1 := by
  have := findS_slot L
  rw [h.mark] at this
  exact this
theorem lay_in (L : List Cn) (zs : List Int) (st a at_ : Nat) (h6 : 6 ≤ L.length) (hs : st ≤ maxSt) (hl : zs.length ≤ 65536) (ha : a ≤ 1) (hfit : at_ + nblocks zs.length ≤ areaSize L.length) :
    ∀ x ∈ layW zs st (areaSize L.length) a at_, x.1 < L.length ∧ x.2.length = 64 := by
  intro x hx
  have h2 := two_area L.length h6
  have hak : a * areaSize L.length ≤ areaSize L.length := by have := Nat.mul_le_mul_right (areaSize L.length) ha; omega
  obtain ⟨j, hj, e⟩ := layW_at _ _ _ _ _ x hx
  refine ⟨by omega, ?_⟩
  unfold layW at hx
  obtain ⟨i, hi, rfl⟩ := List.mem_map.1 hx
  have hi := List.mem_range.1 hi
  have h40 := nblocks_lt _ _ hi
  have hn := nblocks_le zs.length 1639 (by omega) (by omega)
  have hcl := chunk_len zs i h40
  unfold chunk at hcl
  exact blockOf_len _ (pieceB_len _ hs hl (by simp only; omega) (by simp only; omega))
theorem CLog.few {F : Nat → Prop} {w : World} {d L : Nat} {S : St} {slot : Nat} {m : Mk} {stamp : Nat} {srs : List (Nat × List Int)} (h : CLog F w d L S slot m stamp srs) : srs.length ≤ 16384 := by
  have h1 := usedOf_ge (srs.map (·.2))
  have h2 := h.li.used
  have h3 := area_le h.li.hi
  rw [List.length_map] at h1
  omega

set_option maxHeartbeats 4000000 in
theorem CLog.append {F : Nat → Prop} {w : World} {d L : Nat} {S : St} {slot : Nat} {m : Mk} {stamp : Nat} {srs : List (Nat × List Int)} (h : CLog F w d L S slot m stamp srs)
    (A : Option Addr) (n c : Nat) (zs : List Int) (hr : RB w A n zs) (hb : ∀ z ∈ zs, 0 ≤ z ∧ z ≤ 255) (hA : ∀ ad, A = some ad → 0 < n → ¬ F ad.block) (hn : n ≤ c) (hc : c ≤ 9223372036854775807) (hn2 : n ≤ 65536) (hst : stamp < maxSt)
    (hfit : usedOf (srs.map (·.2)) + nblocks n ≤ areaSize S.last.length) :
    Calls Try.prog 25 #[.pointer (some ⟨L, 0, none⟩), .slice A n c] w fun e w' =>
      e = .returned (.int .i64 0) ∧ Out (fun k => F k ∨ k = L) w w' ∧ ∃ S', S'.last.length = S.last.length ∧ CLog (Gr F w) w' d L S' slot m (stamp + 1) (srs ++ [(stamp + 1, zs)]) := by
  have hzs : zs.length = n := hr.len
  subst hzs
  obtain ⟨S', hS, hc', hl'⟩ := runWS_calm S (layW zs (stamp + 1) (areaSize S.last.length) m.area (usedOf (srs.map (·.2)))) h.calm (lay_in _ _ _ _ _ h.li.lo hst hn2 h.li.area.1 hfit)
  have hw := wappend_do h.pd h.lg h.out A zs.length c zs hr hA hn hc hn2 h.li.area.1 (area_le h.li.hi) hst (by rw [h.calm.pend]; simp) hfit (by have := h.few; omega)
  rw [hS] at hw
  refine hw.mono ?_
  rintro e w' ⟨rfl, hpd, hlg, ho⟩
  simp only [if_true] at hlg
  have hlen : S'.last.length = S.last.length := by rw [hl', overW_len]
  have hli := h.li.append zs hst hn2 hb hfit
  rw [← hl'] at hli
  refine ⟨rfl, ho, S', hlen, hpd, hc', hli, ?_, gr_off h.out h.lg.lt⟩
  rw [hlen, List.map_append, List.map_cons, List.map_nil, usedOf_snoc, List.length_append]
  exact hlg

set_option maxHeartbeats 4000000 in
theorem CLog.check {F : Nat → Prop} {w : World} {d L : Nat} {S : St} {slot : Nat} {m : Mk} {stamp : Nat} {srs : List (Nat × List Int)} (h : CLog F w d L S slot m stamp srs)
    (A : Option Addr) (n c : Nat) (zs : List Int) (hr : RB w A n zs) (hb : ∀ z ∈ zs, 0 ≤ z ∧ z ≤ 255) (hA : ∀ ad, A = some ad → 0 < n → ¬ F ad.block) (hn : n ≤ c) (hc : c ≤ 9223372036854775807) (hn2 : n ≤ 65536) (hst : stamp < maxSt)
    (hfit : nblocks n ≤ areaSize S.last.length) :
    Calls Try.prog 34 #[.pointer (some ⟨L, 0, none⟩), .slice A n c] w fun e w' =>
      e = .returned (.int .i64 0) ∧ Out (fun k => F k ∨ k = L) w w' ∧ ∃ S', S'.last.length = S.last.length ∧ CLog (Gr F w) w' d L S' (1 - slot) ⟨m.next, 1 - m.area, stamp + 1⟩ (stamp + 1) [(stamp + 1, zs)] := by
  have hzs : zs.length = n := hr.len
  subst hzs
  have ha : 1 - m.area ≤ 1 := by omega
  have h2 := two_area S.last.length h.li.lo
  obtain ⟨S1, hS1, hc1, hl1⟩ := runWS_calm S (layW zs (stamp + 1) (areaSize S.last.length) (1 - m.area) 0) h.calm (lay_in _ _ _ _ _ h.li.lo hst hn2 ha (by omega))
  have hlen1 : S1.last.length = S.last.length := by rw [hl1, overW_len]
  obtain ⟨S2, hS2, hc2, hl2⟩ := runWS_calm S1 (turnW slot ⟨m.next, 1 - m.area, stamp + 1⟩ (areaSize S.last.length)) hc1
    (turnW_in _ _ _ _ (by omega) (markB_len _ _ (area_le h.li.hi) (by simp only [Mk.next]; omega) ha hst))
  have hlen2 : S2.last.length = S.last.length := by rw [hl2, overW_len, hlen1]
  have hw := wcheck_do h.pd h.lg h.out A zs.length c zs hr hA hn hc hn2 h.li.area.1 h.li.area.2 h.li.slot_le (area_le h.li.hi) hst (by rw [h.calm.pend]; simp) hfit
  have hck : ckR S zs (stamp + 1) (areaSize S.last.length) slot m = (S2, 0) := by
    unfold ckR
    rw [hS1]
    simp only [if_true]
    exact hS2
  rw [hck] at hw
  refine hw.mono ?_
  rintro e w' ⟨rfl, hpd, hlg, ho⟩
  simp only [if_true] at hlg
  have hli := h.li.check zs hst hn2 hb hfit
  rw [← hl1, ← hl2] at hli
  refine ⟨rfl, ho, S2, hlen2, hpd, hc2, hli, ?_, gr_off h.out h.lg.lt⟩
  rw [hlen2]
  have : usedOf [zs] = nblocks zs.length := by simp [usedOf]
  simp only [List.map_cons, List.map_nil, this, List.length_cons, List.length_nil]
  exact hlg

/-- Format of a calm disk, whatever it holds. -/
theorem format_calm {F : Nat → Prop} {w : World} {d : Nat} {S : St} (h : PD F w d S) (hc : Calm S) (hn : 6 ≤ S.last.length) :
    Calls Try.prog 18 #[.pointer (some ⟨d, 0, none⟩)] w fun e w' =>
      ∃ L S' slot m, e = .returned (.tuple #[.pointer (some ⟨L, 0, none⟩), .int .i64 0]) ∧ w.heap.size ≤ L ∧ Out F w w' ∧ S'.last.length = S.last.length ∧ CLog (fun k => Gr F w k ∧ k ≠ L) w' d L S' slot m 1 [] ∧ (0 ≤ S.writes → S.writes ≤ 1000000 → 0 ≤ S'.writes ∧ S'.writes ≤ S.writes + 40000) := by
  refine (wformat h hc hn).mono ?_
  rintro e w' ⟨L, S', rfl, hpd, hc', hl', hlg, hL, ho, hwr⟩
  have hlen : S'.last.length = S.last.length := by rw [hl', overW_len]
  have hli := LI.format S.last hn h.wf.hi
  rw [← hl'] at hli
  refine ⟨L, S', _, _, rfl, hL, ho, hlen, ⟨hpd, hc', hli, ?_, fun hh => hh.2 rfl⟩, hwr⟩
  rw [hlen]
  exact hlg
/-- Open of a calm disk that holds a log: the records, and a log as it stood. -/
theorem open_calm {F : Nat → Prop} {w : World} {d : Nat} {S : St} {slot : Nat} {m : Mk} {stamp : Nat} {srs : List (Nat × List Int)} (h : PD F w d S) (hc : Calm S) (hli : LI S.last slot m stamp srs) (hF : ∀ k, F k → k < w.heap.size) :
    Calls Try.prog 23 #[.pointer (some ⟨d, 0, none⟩)] w fun e w' =>
      ∃ L v vs stamp', stamp' ≤ stamp ∧ e = .returned (.tuple #[.pointer (some ⟨L, 0, none⟩), v, .int .i64 0]) ∧ w.heap.size ≤ L ∧ Below w.heap.size w w' ∧ RecAt w' (L + 1) v (srs.map (·.2)) vs ∧ CLog F w' d L S slot m stamp' srs := by
  have hw := wopen h hc.off hc.pend hli.lo (by rw [hli.mark]; exact hli.pos)
  refine hw.mono ?_
  rintro e w' ⟨L, v, vs, rfl, hlg, hrec, hL, hb⟩
  rw [hli.opens] at hlg hrec
  rw [hli.mark] at hlg
  simp only at hlg
  have hop := hli.opened
  have hle : topStamp m.since (piecesOf S.last (2 * areaSize S.last.length)) ≤ stamp := topStamp_most _ _ _ hli.since fun p hp => by
    unfold piecesOf at hp
    obtain ⟨i, hi, rfl⟩ := List.mem_map.1 hp
    exact hli.all i (List.mem_range.1 hi)
  rw [List.length_map] at hlg
  exact ⟨L, v, vs, _, hle, rfl, hL, hb, hrec, h.below hb, hc, hop, hlg, fun hf => absurd (hF L hf) (by omega)⟩
end Go.Proofs.Ythpbcibjohakkaa

/- log.Format on a disk that is too small; what Open read, as the reference's records. -/
namespace Go.Proofs.Ythpbcibjohakkaa
set_option maxRecDepth 100000
set_option maxRecDepth 100000
open Go.RowKit

theorem wformat_small {F : Nat → Prop} {w : World} {d : Nat} {S : St} (h : PD F w d S) (hn : S.last.length < 6) :
    Calls Try.prog 18 #[.pointer (some ⟨d, 0, none⟩)] w fun e w' => e = .returned (.tuple #[.pointer none, .int .i64 1]) ∧ Below w.heap.size w w' := by
  have CF := Lib.hid (find_small h hn)
  clear h hn
  go_enter Try.func18, Try.ntmps18
  go_wp2_with (go_at_call 36; refine CF.out.mono ?_; rintro e w' ⟨rfl, rfl⟩)
  go_ret2
  exact ⟨rfl, Below.refl _ _⟩
/-- What Open read, as records of the reference. -/
theorem RecAt.recs {w : World} {base : Nat} {v : Value} {rs : List (List Int)} {vs : List Value} (h : RecAt w base v rs vs) (hl : ∀ r ∈ rs, r.length ≤ 9223372036854775807) : Recs (fun k => base ≤ k) w base v rs vs :=
  ⟨h.own, fun k e => (h.own.lt k e).1, fun i r hr => by
    obtain ⟨g, e, hrow, hg, _⟩ := h.at_ i r hr
    exact ⟨some ⟨g, 0, none⟩, r.length, e, Nat.le_refl _, hl r (List.mem_of_getElem? hr), hrow.rb (h.byte r (List.mem_of_getElem? hr)), fun ad e0 _ => by injection e0 with e0; subst e0; exact hg⟩⟩
theorem Recs.wide {G H : Nat → Prop} {w : World} {base b : Nat} {v : Value} {rs : List (List Int)} {vs : List Value} (h : Recs G w base v rs vs) (hG : ∀ k, G k → H k) (hb : b ≤ base) : Recs H w b v rs vs :=
  ⟨own_base h.own (fun k e => Nat.le_trans hb (h.own.lt k e).1), fun k e => hG k (h.row k e), fun i r hr => by
    obtain ⟨B, c, e, h1, h2, hrb, hg⟩ := h.at_ i r hr
    exact ⟨B, c, e, h1, h2, hrb, fun ad e0 h0 => hG _ (hg ad e0 h0)⟩⟩
end Go.Proofs.Ythpbcibjohakkaa

/- log.Checkpoint: refused, and full. -/
namespace Go.Proofs.Ythpbcibjohakkaa
set_option maxRecDepth 100000
set_option maxRecDepth 100000
open Go.RowKit

/-- Refused: nothing turns. -/
theorem wcheck_refused {w : World} {d L size slot : Nat} {m : Mk} {stamp used count : Nat} {over : Bool} (lg : LgAt w L d size slot m stamp used count over) (A : Option Addr) (n c : Nat) (hr : refuseC over n ≠ 0) :
    Calls Try.prog 34 #[.pointer (some ⟨L, 0, none⟩), .slice A n c] w fun e w' => e = .returned (.int .i64 (refuseC over n)) ∧ w = w' := by
  have RF := Lib.hid (wrefuses lg A n c)
  obtain ⟨rc, hrc⟩ : ∃ rc, refuseC over n = rc := ⟨_, rfl⟩
  rw [hrc] at RF hr ⊢
  have hne : (rc != 0) = true := by simpa using hr
  clear lg hr hrc
  go_enter Try.func34, Try.ntmps34
  go_wp2_with (go_at_call 45; refine RF.out.mono ?_; rintro e w1 ⟨rfl, rfl⟩)
  go_ret
  exact ⟨rfl, rfl⟩
/-- More than an area holds: nothing turns. -/
theorem wcheck_full {w : World} {d L size slot : Nat} {m : Mk} {stamp used count : Nat} (lg : LgAt w L d size slot m stamp used count false) (A : Option Addr) (n c : Nat) (hn2 : n ≤ 65536) (hsz : size ≤ 16384) (hfull : size < nblocks n) :
    Calls Try.prog 34 #[.pointer (some ⟨L, 0, none⟩), .slice A n c] w fun e w' => e = .returned (.int .i64 4) ∧ Below w.heap.size w w' := by
  have RF := Lib.hid (wrefuses lg A n c)
  rw [show refuseC false n = 0 from by unfold refuseC; rw [if_neg (by simp), if_neg (by omega)]] at RF
  have NB := Lib.hid fun W => wblocksN n W (by omega)
  obtain ⟨nb, hnb⟩ : ∃ nb, nblocks n = nb := ⟨_, rfl⟩
  rw [hnb] at hfull NB
  have NBq := Lib.hid fun W => (NB.out W).mono fun e w' (h : _ ∧ _) => (⟨h.1, h.2.symm⟩ : e = .returned (.int .i64 (nb : Int)) ∧ w' = W)
  have c1 := lg.c1
  clear lg hnb
  go_enter Try.func34, Try.ntmps34
  go_upto_region 4 with (go_at_call 45; refine RF.out.mono ?_; rintro e w1 ⟨rfl, rfl⟩)
  go_quiet ((go_at_call 28; exact Calls.quiet_of_same (NBq.out _)))
  go_wp2
  go_ret
  exact ⟨rfl, Joins.below_draws _ _ _⟩
end Go.Proofs.Ythpbcibjohakkaa

/- Append and Checkpoint of a calm log, and the reference's, whatever the record: one answer. -/
namespace Go.Proofs.Ythpbcibjohakkaa
set_option maxRecDepth 100000
set_option maxRecDepth 100000
open Go.RowKit

/-- What is told: too long, full, or done. -/
def ansA (n used k : Nat) : Nat := if 65536 < n then 3 else if k < used + nblocks n then 4 else 0
theorem ansA_long {n used k : Nat} (h : 65536 < n) : ansA n used k = 3 := if_pos h
theorem ansA_full {n used k : Nat} (h : ¬ 65536 < n) (h2 : k < used + nblocks n) : ansA n used k = 4 := by unfold ansA; rw [if_neg h, if_pos h2]
theorem ansA_do {n used k : Nat} (h : ¬ 65536 < n) (h2 : ¬ k < used + nblocks n) : ansA n used k = 0 := by unfold ansA; rw [if_neg h, if_neg h2]

theorem CLog.below {F : Nat → Prop} {w w' : World} {d L : Nat} {S : St} {slot : Nat} {m : Mk} {stamp : Nat} {srs : List (Nat × List Int)} (h : CLog F w d L S slot m stamp srs) (hb : Below w.heap.size w w') : CLog F w' d L S slot m stamp srs :=
  ⟨h.pd.below hb, h.calm, h.li, h.lg.below hb, h.out⟩

/-- What Append leaves, whatever it told. -/
def AppIs (F : Nat → Prop) (w : World) (d L : Nat) (S : St) (slot : Nat) (m : Mk) (stamp : Nat) (srs : List (Nat × List Int)) (zs : List Int) (e : Ending) (w' : World) : Prop :=
  e = .returned (.int .i64 (ansA zs.length (usedOf (srs.map (·.2))) (areaSize S.last.length) : Nat)) ∧ Out (fun k => F k ∨ k = L) w w' ∧
    (ansA zs.length (usedOf (srs.map (·.2))) (areaSize S.last.length) = 0 → ∃ S', S'.last.length = S.last.length ∧ CLog (Gr F w) w' d L S' slot m (stamp + 1) (srs ++ [(stamp + 1, zs)])) ∧
    (ansA zs.length (usedOf (srs.map (·.2))) (areaSize S.last.length) ≠ 0 → CLog F w' d L S slot m stamp srs)
theorem CLog.append_any {F : Nat → Prop} {w : World} {d L : Nat} {S : St} {slot : Nat} {m : Mk} {stamp : Nat} {srs : List (Nat × List Int)} (h : CLog F w d L S slot m stamp srs)
    (A : Option Addr) (n c : Nat) (zs : List Int) (hr : RB w A n zs) (hA : ∀ ad, A = some ad → 0 < n → ¬ F ad.block) (hn : n ≤ c) (hc : c ≤ 9223372036854775807) (hst : stamp < maxSt) :
    Calls Try.prog 25 #[.pointer (some ⟨L, 0, none⟩), .slice A n c] w (AppIs F w d L S slot m stamp srs zs) := by
  have hzs : zs.length = n := hr.len
  unfold AppIs
  by_cases h1 : 65536 < n
  · have hrc : refuseC false n = 3 := by unfold refuseC; rw [if_neg (by simp), if_pos (by omega)]
    rw [hzs, ansA_long h1]
    refine (wappend_refused h.lg A n c (by rw [hrc]; decide)).mono ?_
    rintro e w' ⟨rfl, rfl⟩
    exact ⟨by rw [hrc]; rfl, Out.of_below (Below.refl _ _) _, fun e => absurd e (by decide), fun _ => h⟩
  · by_cases h2 : areaSize S.last.length < usedOf (srs.map (·.2)) + nblocks n
    · rw [hzs, ansA_full h1 h2]
      refine (wappend_full h.lg A n c (by omega) h.li.used (area_le h.li.hi) h2).mono ?_
      rintro e w' ⟨rfl, hb⟩
      exact ⟨rfl, Out.of_below hb _, fun e => absurd e (by decide), fun _ => h.below hb⟩
    · rw [hzs, ansA_do h1 h2]
      refine (h.append A n c zs hr hr.byte hA hn hc (by omega) hst (by omega)).mono ?_
      rintro e w' ⟨rfl, ho, S', hl, hS⟩
      exact ⟨rfl, ho, fun _ => ⟨S', hl, hS⟩, fun e => absurd rfl e⟩

/-- What the reference's Appended leaves. -/
def RAppIs (G : Nat → Prop) (w : World) (k : Nat) (rs : List (List Int)) (B : Option Addr) (zs : List Int) (e : Ending) (w' : World) : Prop :=
  ∃ v vs base, e = .returned (.tuple #[.agg #[.int .i64 (k : Int), v], .int .i64 (ansA zs.length (usedOf rs) k : Nat)]) ∧ Below w.heap.size w w' ∧
    Recs (FreshOr G w B) w' base v (if ansA zs.length (usedOf rs) k = 0 then rs ++ [zs] else rs) vs
theorem rappended_any (w : World) (k : Nat) (G : Nat → Prop) (base : Nat) (v : Value) (rs : List (List Int)) (vs : List Value) (h : Recs G w base v rs vs) (hl : ∀ r ∈ rs, r.length ≤ 655360) (hu : usedOf rs ≤ k) (B : Option Addr) (n c : Nat) (zs : List Int) (hr : RB w B n zs) (hn : n ≤ c) (hc : c ≤ 9223372036854775807) (hk : k ≤ 16384) :
    Calls Try.prog 32 #[.agg #[.int .i64 (k : Int), v], .slice B n c] w (RAppIs G w k rs B zs) := by
  have hzs : zs.length = n := hr.len
  obtain ⟨A, cap, rfl, -⟩ := h.form
  unfold RAppIs
  by_cases h1 : 65536 < n
  · rw [hzs, ansA_long h1]
    refine (rappended_long w k A rs.length cap B n c h1 (by omega)).mono ?_
    rintro e w' ⟨rfl, hb⟩
    exact ⟨_, vs, base, rfl, hb, by rw [if_neg (by decide)]; exact (h.below hb).wide (fun j hj => .inl hj) (Nat.le_refl _)⟩
  · by_cases h2 : k < usedOf rs + nblocks n
    · rw [hzs, ansA_full h1 h2]
      refine (rappended_full w k G base A cap rs vs h hl hu B n c (by omega) hk h2).mono ?_
      rintro e w' ⟨rfl, hb⟩
      exact ⟨_, vs, base, rfl, hb, by rw [if_neg (by decide)]; exact (h.below hb).wide (fun j hj => .inl hj) (Nat.le_refl _)⟩
    · rw [hzs, ansA_do h1 h2]
      refine (rappended_do w k G base A cap rs vs h hl hu B n c zs hr hn hc (by omega) hk (by omega)).mono ?_
      rintro e w' ⟨v', vs', rfl, hR, hb⟩
      exact ⟨v', vs', _, rfl, hb, by rw [if_pos rfl]; exact hR⟩

/-- What Checkpoint leaves, whatever it told. -/
def ChkIs (F : Nat → Prop) (w : World) (d L : Nat) (S : St) (slot : Nat) (m : Mk) (stamp : Nat) (srs : List (Nat × List Int)) (zs : List Int) (e : Ending) (w' : World) : Prop :=
  e = .returned (.int .i64 (ansA zs.length 0 (areaSize S.last.length) : Nat)) ∧ Out (fun k => F k ∨ k = L) w w' ∧
    (ansA zs.length 0 (areaSize S.last.length) = 0 → ∃ S', S'.last.length = S.last.length ∧ CLog (Gr F w) w' d L S' (1 - slot) ⟨m.next, 1 - m.area, stamp + 1⟩ (stamp + 1) [(stamp + 1, zs)]) ∧
    (ansA zs.length 0 (areaSize S.last.length) ≠ 0 → CLog F w' d L S slot m stamp srs)
theorem CLog.check_any {F : Nat → Prop} {w : World} {d L : Nat} {S : St} {slot : Nat} {m : Mk} {stamp : Nat} {srs : List (Nat × List Int)} (h : CLog F w d L S slot m stamp srs)
    (A : Option Addr) (n c : Nat) (zs : List Int) (hr : RB w A n zs) (hA : ∀ ad, A = some ad → 0 < n → ¬ F ad.block) (hn : n ≤ c) (hc : c ≤ 9223372036854775807) (hst : stamp < maxSt) :
    Calls Try.prog 34 #[.pointer (some ⟨L, 0, none⟩), .slice A n c] w (ChkIs F w d L S slot m stamp srs zs) := by
  have hzs : zs.length = n := hr.len
  unfold ChkIs
  by_cases h1 : 65536 < n
  · have hrc : refuseC false n = 3 := by unfold refuseC; rw [if_neg (by simp), if_pos (by omega)]
    rw [hzs, ansA_long h1]
    refine (wcheck_refused h.lg A n c (by rw [hrc]; decide)).mono ?_
    rintro e w' ⟨rfl, rfl⟩
    exact ⟨by rw [hrc]; rfl, Out.of_below (Below.refl _ _) _, fun e => absurd e (by decide), fun _ => h⟩
  · by_cases h2 : areaSize S.last.length < 0 + nblocks n
    · rw [hzs, ansA_full h1 h2]
      refine (wcheck_full h.lg A n c (by omega) (area_le h.li.hi) (by omega)).mono ?_
      rintro e w' ⟨rfl, hb⟩
      exact ⟨rfl, Out.of_below hb _, fun e => absurd e (by decide), fun _ => h.below hb⟩
    · rw [hzs, ansA_do h1 h2]
      refine (h.check A n c zs hr hr.byte hA hn hc (by omega) hst (by omega)).mono ?_
      rintro e w' ⟨rfl, ho, S', hl, hS⟩
      exact ⟨rfl, ho, fun _ => ⟨S', hl, hS⟩, fun e => absurd rfl e⟩
def RChkIs (G : Nat → Prop) (w : World) (k : Nat) (rs : List (List Int)) (B : Option Addr) (zs : List Int) (e : Ending) (w' : World) : Prop :=
  ∃ v vs base, e = .returned (.tuple #[.agg #[.int .i64 (k : Int), v], .int .i64 (ansA zs.length 0 k : Nat)]) ∧ Below w.heap.size w w' ∧
    Recs (FreshOr G w B) w' base v (if ansA zs.length 0 k = 0 then [zs] else rs) vs
theorem rchecked_any (w : World) (k : Nat) (G : Nat → Prop) (base : Nat) (v : Value) (rs : List (List Int)) (vs : List Value) (h : Recs G w base v rs vs) (B : Option Addr) (n c : Nat) (zs : List Int) (hr : RB w B n zs) (hn : n ≤ c) (hc : c ≤ 9223372036854775807) (hk : k ≤ 16384) :
    Calls Try.prog 33 #[.agg #[.int .i64 (k : Int), v], .slice B n c] w (RChkIs G w k rs B zs) := by
  have hzs : zs.length = n := hr.len
  obtain ⟨A, cap, rfl, -⟩ := h.form
  unfold RChkIs
  by_cases h1 : 65536 < n
  · rw [hzs, ansA_long h1]
    refine (rchecked_long w k A rs.length cap B n c h1 (by omega)).mono ?_
    rintro e w' ⟨rfl, hb⟩
    exact ⟨_, vs, base, rfl, hb, by rw [if_neg (by decide)]; exact (h.below hb).wide (fun j hj => .inl hj) (Nat.le_refl _)⟩
  · by_cases h2 : k < 0 + nblocks n
    · rw [hzs, ansA_full h1 h2]
      refine (rchecked_full w k A rs.length cap B n c (by omega) hk (by omega)).mono ?_
      rintro e w' ⟨rfl, hb⟩
      exact ⟨_, vs, base, rfl, hb, by rw [if_neg (by decide)]; exact (h.below hb).wide (fun j hj => .inl hj) (Nat.le_refl _)⟩
    · rw [hzs, ansA_do h1 h2]
      refine (rchecked_do w k A rs.length cap B n c zs hr hn hc (by omega) hk (by omega)).mono ?_
      rintro e w' ⟨v', vs', rfl, hR, hb⟩
      exact ⟨v', vs', _, rfl, hb, by rw [if_pos rfl]; exact hR.wide (fun j hj => hj.imp (fun h => h.elim) id) (Nat.le_refl _)⟩
end Go.Proofs.Ythpbcibjohakkaa

/- The law's struct world; records shut in what there is. -/
namespace Go.Proofs.Ythpbcibjohakkaa
set_option maxRecDepth 100000
set_option maxRecDepth 100000
open Go.RowKit

/-- The law's struct world at block b. -/
def LwC (d L k : Nat) (v mb : Value) (met over : Bool) : Array Value := #[.pointer (some ⟨d, 0, none⟩), .pointer (some ⟨L, 0, none⟩), .int .i64 (k : Int), v, mb, .bool met, .bool over]

theorem Recs.shut {G : Nat → Prop} {w : World} {base : Nat} {v : Value} {rs : List (List Int)} {vs : List Value} (h : Recs G w base v rs vs) : Recs (fun j => G j ∧ j < w.heap.size) w base v rs vs :=
  ⟨h.own, fun k e => ⟨h.row k e, (h.own.lt k e).2⟩, fun i r hr => by
    obtain ⟨B, c, e, h1, h2, hrb, hg⟩ := h.at_ i r hr
    exact ⟨B, c, e, h1, h2, hrb, fun ad e0 h0 => ⟨hg ad e0 h0, rb_lt hrb ad e0 h0⟩⟩⟩
theorem used_each (rs : List (List Int)) (k : Nat) (h : usedOf rs ≤ k) (hk : k ≤ 16384) : ∀ r ∈ rs, r.length ≤ 655360 := by
  intro r hr
  have h1 : nblocks r.length ≤ usedOf rs := by
    obtain ⟨a, b, rfl⟩ := List.append_of_mem hr
    unfold usedOf
    simp
    omega
  have := nblocks_inv (Nat.le_trans h1 h)
  omega
end Go.Proofs.Ythpbcibjohakkaa
