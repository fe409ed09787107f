/- Writes under any plan; what a loss of power leaves; the log's calls whatever the plan. -/
import Derived.Test.YthpbcibjohakkaaLMixed
import Derived.Test.YthpbcibjohakkaaJBJ
import Derived.Test.YthpbcibjohakkaaJAH
namespace Go.Proofs.Ythpbcibjohakkaa
set_option maxRecDepth 100000
set_option maxRecDepth 100000
open Go.RowKit

def mkW (x : Nat × List Int) : Wr := ⟨x.1, x.2⟩
theorem wrap_small {z : Int} (h0 : 0 ≤ z) (h1 : z ≤ 4611686018427387904) : wrap64 z = z := by unfold wrap64; omega
theorem runW_any : ∀ (ws : List (Nat × List Int)) (S : St), S.off = false → (∀ x ∈ ws, x.1 < S.last.length ∧ x.2.length = 64) → 0 ≤ S.writes → S.writes + (ws.length : Int) ≤ 4611686018427387904 →
    (∃ pl wr, runW S ws = ({ S with pend := S.pend ++ ws.map mkW, writes := wr, plan := pl }, 0) ∧ S.writes ≤ wr ∧ wr ≤ S.writes + (ws.length : Int)) ∨
    (∃ j wr, runW S ws = ({ S with pend := S.pend ++ (ws.take j).map mkW, writes := wr, plan := -1, off := true }, 22) ∧ S.writes ≤ wr ∧ wr ≤ S.writes + (ws.length : Int))
  | [], S, _, _, _, _ => .inl ⟨S.plan, S.writes, by simp [runW], by omega, by omega⟩
  | x :: ws, S, ho, hw, h0, h1 => by
    have hx := hw x (List.mem_cons_self ..)
    rw [List.length_cons] at h1
    by_cases hp : S.plan = 0
    · have hE : writeE S (x.1 : Int) 64 = 22 := by
        unfold writeE spendE
        rw [if_neg (by simp [ho]), if_neg (by omega), if_neg (by simp), if_pos hp]
      have hS : writeS S (x.1 : Int) x.2 = { S with off := true, plan := -1 } := by
        unfold writeS spendS
        rw [if_neg (by simp [ho]), if_neg (by omega), if_neg (by rw [hx.2]; simp), if_pos hp, if_neg (by omega), if_pos hp]
      refine .inr ⟨0, S.writes, ?_, by omega, by omega⟩
      rw [runW, if_neg (by rw [hE]; decide), hS, hE]
      simp
    · have hE : writeE S (x.1 : Int) 64 = 0 := by
        unfold writeE spendE
        rw [if_neg (by simp [ho]), if_neg (by omega), if_neg (by simp), if_neg hp]
      obtain ⟨pl, hS⟩ : ∃ pl, writeS S (x.1 : Int) x.2 = { S with pend := S.pend ++ [mkW x], writes := S.writes + 1, plan := pl } := by
        unfold writeS
        rw [if_neg (by simp [ho]), if_neg (by omega), if_neg (by rw [hx.2]; simp), if_neg hp, Int.toNat_natCast, wrap_small (by omega) (by omega)]
        unfold spendS
        by_cases h2 : S.plan = -1
        · exact ⟨S.plan, by rw [if_pos h2]; rfl⟩
        · exact ⟨S.plan - 1, by rw [if_neg h2, if_neg hp]; rfl⟩
      have ih := runW_any ws { S with pend := S.pend ++ [mkW x], writes := S.writes + 1, plan := pl } ho (fun y hy => hw y (List.mem_cons_of_mem _ hy)) (by simp only; omega) (by simp only; omega)
      simp only at ih
      rw [runW, if_pos hE, hS]
      rcases ih with ⟨pl2, wr, hr, h3, h4⟩ | ⟨j, wr, hr, h3, h4⟩
      · exact .inl ⟨pl2, wr, by rw [hr]; simp, by omega, by rw [List.length_cons]; omega⟩
      · exact .inr ⟨j + 1, wr, by rw [hr]; simp, by omega, by rw [List.length_cons]; omega⟩

theorem runWS_any (S : St) (ws : List (Nat × List Int)) (ho : S.off = false) (hpd : S.pend = []) (hw : ∀ x ∈ ws, x.1 < S.last.length ∧ x.2.length = 64) (h0 : 0 ≤ S.writes) (h1 : S.writes + (ws.length : Int) ≤ 4611686018427387904) :
    (∃ S', runWS S ws = (S', 0) ∧ S'.off = false ∧ S'.pend = [] ∧ S'.last = overW S.last ws ∧ S.writes ≤ S'.writes ∧ S'.writes ≤ S.writes + (ws.length : Int)) ∨
    (∃ S' j, runWS S ws = (S', 22) ∧ S'.off = true ∧ S'.pend = (ws.take j).map mkW ∧ S'.last = S.last ∧ S.writes ≤ S'.writes ∧ S'.writes ≤ S.writes + (ws.length : Int)) := by
  unfold runWS
  rcases runW_any ws S ho hw h0 h1 with ⟨pl, wr, hr, h3, h4⟩ | ⟨j, wr, hr, h3, h4⟩
  · rw [hr, hpd, List.nil_append]
    simp only [if_true]
    by_cases hp : pl = 0
    · subst hp
      refine .inr ⟨{ S with pend := ws.map mkW, writes := wr, plan := -1, off := true }, ws.length, ?_, rfl, by rw [List.take_length], rfl, h3, h4⟩
      unfold syncS syncE spendE spendS
      simp [ho]
    · obtain ⟨pl', hsy⟩ : ∃ pl', syncS { S with pend := ws.map mkW, writes := wr, plan := pl } = { S with last := overW S.last ws, pend := [], writes := wr, plan := pl', syncs := wrap64 (S.syncs + 1) } := by
        have hL : layAll S.last (ws.map mkW) (ones (ws.map mkW).length) = overW S.last ws := by rw [List.length_map]; exact layAll_overW ws S.last
        rw [List.length_map] at hL
        unfold syncS spendS
        by_cases h2 : pl = -1
        · exact ⟨pl, by simp [ho, h2, hL]⟩
        · exact ⟨pl - 1, by simp [ho, hp, h2, hL]⟩
      have hse : syncE { S with pend := ws.map mkW, writes := wr, plan := pl } = 0 := by
        unfold syncE spendE
        simp [ho, hp]
      rw [hsy, hse]
      exact .inl ⟨_, rfl, ho, rfl, rfl, h3, h4⟩
  · rw [hr, hpd, List.nil_append]
    rw [if_neg (by simp)]
    exact .inr ⟨_, j, rfl, rfl, rfl, rfl, h3, h4⟩

/-- The blocks as any loss of power may leave them. -/
theorem alts_mixed {L : List Cn} {ws : List (Nat × List Int)} {j : Nat} (ks : List Int) : Mixed L ws (layAll L ((ws.take j).map mkW) ks) := mixed_pend L ws j ks

/-- An Append under any plan. -/
theorem app_any {S : St} {slot : Nat} {m : Mk} {stamp : Nat} {srs : List (Nat × List Int)} (h : LI S.last slot m stamp srs) (ho : S.off = false) (hpd : S.pend = []) (zs : List Int) (hs : stamp + 1 ≤ maxSt) (hl : zs.length ≤ 65536) (hb : ∀ z ∈ zs, 0 ≤ z ∧ z ≤ 255)
    (hfit : usedOf (srs.map (·.2)) + nblocks zs.length ≤ areaSize S.last.length) (h0 : 0 ≤ S.writes) (h1 : S.writes ≤ 1152921504606846976) :
    ∃ S', S'.last.length = S.last.length ∧ S.writes ≤ S'.writes ∧ S'.writes ≤ S.writes + (nblocks zs.length : Int) ∧
      ((runWS S (layW zs (stamp + 1) (areaSize S.last.length) m.area (usedOf (srs.map (·.2)))) = (S', 0) ∧ S'.off = false ∧ S'.pend = [] ∧ LI S'.last slot m (stamp + 1) (srs ++ [(stamp + 1, zs)])) ∨
       (runWS S (layW zs (stamp + 1) (areaSize S.last.length) m.area (usedOf (srs.map (·.2)))) = (S', 22) ∧ S'.off = true ∧ S'.pend.length ≤ 16384 ∧ Alts S'.last S'.pend (stamp + 1) (srs.map (·.2)) (srs.map (·.2) ++ [zs]))) := by
  have hlen := layW_len zs (stamp + 1) (areaSize S.last.length) m.area (usedOf (srs.map (·.2)))
  have hnb : nblocks zs.length ≤ 16384 := by have := area_le h.hi; omega
  rcases runWS_any S _ ho hpd (lay_in S.last zs (stamp + 1) m.area _ h.lo hs hl h.area.1 hfit) h0 (by rw [hlen]; omega) with ⟨S', hr, h2, h3, h4, h5, h6⟩ | ⟨S', j, hr, h2, h3, h4, h5, h6⟩
  · refine ⟨S', by rw [h4, overW_len], h5, by rw [hlen] at h6; exact h6, .inl ⟨hr, h2, h3, ?_⟩⟩
    rw [h4]
    exact h.append zs hs hl hb hfit
  · refine ⟨S', by rw [h4], h5, by rw [hlen] at h6; exact h6, .inr ⟨hr, h2, by rw [h3, List.length_map, List.length_take, hlen]; omega, fun ks => ?_⟩⟩
    rw [h3, h4]
    rcases h.mixed_append zs hs hl hb hfit (alts_mixed (j := j) ks) with h7 | h7
    · exact ⟨_, _, _, h7, .inl rfl⟩
    · exact ⟨_, _, _, h7, .inr (by simp)⟩

/-- A Checkpoint under any plan. -/
theorem chk_any {S : St} {slot : Nat} {m : Mk} {stamp : Nat} {srs : List (Nat × List Int)} (h : LI S.last slot m stamp srs) (ho : S.off = false) (hpd : S.pend = []) (zs : List Int) (hs : stamp + 1 ≤ maxSt) (hl : zs.length ≤ 65536) (hb : ∀ z ∈ zs, 0 ≤ z ∧ z ≤ 255)
    (hfit : nblocks zs.length ≤ areaSize S.last.length) (h0 : 0 ≤ S.writes) (h1 : S.writes ≤ 1152921504606846976) :
    ∃ S', S'.last.length = S.last.length ∧ S.writes ≤ S'.writes ∧ S'.writes ≤ S.writes + (nblocks zs.length : Int) + 1 ∧
      ((ckR S zs (stamp + 1) (areaSize S.last.length) slot m = (S', 0) ∧ S'.off = false ∧ S'.pend = [] ∧ LI S'.last (1 - slot) ⟨m.next, 1 - m.area, stamp + 1⟩ (stamp + 1) [(stamp + 1, zs)]) ∨
       (ckR S zs (stamp + 1) (areaSize S.last.length) slot m = (S', 22) ∧ S'.off = true ∧ S'.pend.length ≤ 16384 ∧ Alts S'.last S'.pend (stamp + 1) (srs.map (·.2)) [zs])) := by
  have hlen := layW_len zs (stamp + 1) (areaSize S.last.length) (1 - m.area) 0
  have ha : 1 - m.area ≤ 1 := by omega
  have hlo := h.lo
  have hnb : nblocks zs.length ≤ 16384 := by have := area_le h.hi; omega
  unfold ckR
  rcases runWS_any S _ ho hpd (lay_in S.last zs (stamp + 1) (1 - m.area) 0 h.lo hs hl ha (by omega)) h0 (by rw [hlen]; omega) with ⟨S1, hr, h2, h3, h4, h5, h6⟩ | ⟨S', j, hr, h2, h3, h4, h5, h6⟩
  · rw [hr]
    simp only [if_true]
    rw [hlen] at h6
    have hl1 : S1.last.length = S.last.length := by rw [h4, overW_len]
    rcases runWS_any S1 (turnW slot ⟨m.next, 1 - m.area, stamp + 1⟩ (areaSize S.last.length)) h2 h3 (turnW_in _ _ _ _ (by omega) (markB_len _ _ (area_le h.hi) (by simp only [Mk.next]; omega) ha hs)) (by omega) (by simp only [turnW, List.length_singleton]; omega) with ⟨S2, hr2, k2, k3, k4, k5, k6⟩ | ⟨S2, j, hr2, k2, k3, k4, k5, k6⟩
    · simp only [turnW, List.length_singleton] at k6
      refine ⟨S2, by rw [k4, overW_len, hl1], by omega, by omega, .inl ⟨hr2, k2, k3, ?_⟩⟩
      rw [k4, h4]
      exact h.check zs hs hl hb hfit
    · simp only [turnW, List.length_singleton] at k6
      refine ⟨S2, by rw [k4, hl1], by omega, by omega, .inr ⟨hr2, k2, by rw [k3, List.length_map, List.length_take]; simp only [turnW, List.length_singleton]; omega, fun ks => ?_⟩⟩
      rw [k3, k4, h4]
      rcases h.mixed_turn zs hs hl hb hfit (alts_mixed (j := j) ks) with h7 | h7
      · exact ⟨_, _, _, h7, .inl rfl⟩
      · exact ⟨_, _, _, h7, .inr rfl⟩
  · rw [hr]
    simp only
    rw [if_neg (by decide)]
    rw [hlen] at h6
    refine ⟨S', by rw [h4], h5, by omega, .inr ⟨rfl, h2, by rw [h3, List.length_map, List.length_take, hlen]; omega, fun ks => ?_⟩⟩
    rw [h3, h4]
    exact ⟨_, _, _, h.mixed_check zs hs hl hb hfit (alts_mixed (j := j) ks), .inl rfl⟩

/-- A log whose power is there, over a disk: its records. -/
structure Up (F : Nat → Prop) (w : World) (d L : Nat) (S : St) (c : Nat) (rs : List (List Int)) : Prop where
  pd : PD F w d S
  off : S.off = false
  pend : S.pend = []
  out : ¬ F L
  is : ∃ slot m stamp srs, LI S.last slot m stamp srs ∧ LgAt w L d (areaSize S.last.length) slot m stamp (usedOf rs) rs.length false ∧ rs = srs.map (·.2) ∧ stamp ≤ c
/-- A log that is over, the disk without power: the records, and what they are with the one that was met. -/
structure Dn (F : Nat → Prop) (w : World) (d L : Nat) (S : St) (c : Nat) (rs alt : List (List Int)) : Prop where
  pd : PD F w d S
  off : S.off = true
  few : S.pend.length ≤ 16384
  out : ¬ F L
  lg : ∃ size slot m stamp used count, LgAt w L d size slot m stamp used count true
  alts : Alts S.last S.pend c rs alt
section
variable {F F' : Nat → Prop} {w w' : World} {d L : Nat} {S : St} {c : Nat} {rs alt : List (List Int)}
theorem Up.lo (h : Up F w d L S c rs) : 6 ≤ S.last.length ∧ S.last.length ≤ 16384 ∧ usedOf rs ≤ areaSize S.last.length := by
  obtain ⟨slot, m, stamp, srs, hli, _, rfl, _⟩ := h.is
  exact ⟨hli.lo, hli.hi, hli.used⟩
theorem Up.llt (h : Up F w d L S c rs) : L < w.heap.size := by
  obtain ⟨slot, m, stamp, srs, _, hl, _, _⟩ := h.is
  exact hl.lt
theorem Dn.llt (h : Dn F w d L S c rs alt) : L < w.heap.size := by
  obtain ⟨_, _, _, _, _, _, hl⟩ := h.lg
  exact hl.lt
theorem Dn.lo (h : Dn F w d L S c rs alt) : 6 ≤ S.last.length ∧ S.last.length ≤ 16384 := by
  obtain ⟨slot, m, srs, hli, _⟩ := h.alts []
  have := layAll_len S.pend [] S.last
  have h1 := hli.lo
  have h2 := hli.hi
  omega
theorem Up.stays (h : Up F w d L S c rs) (hk : ∀ k, k < w.heap.size → (F k ∨ k = L) → w'.heap[k]? = w.heap[k]?) : Up F w' d L S c rs := by
  obtain ⟨slot, m, stamp, srs, hli, hl, e, hc⟩ := h.is
  exact ⟨h.pd.stays fun k hk1 hf => hk k hk1 (.inl hf), h.off, h.pend, h.out, slot, m, stamp, srs, hli, (hk L hl.lt (.inr rfl)).trans hl, e, hc⟩
theorem Dn.stays (h : Dn F w d L S c rs alt) (hk : ∀ k, k < w.heap.size → (F k ∨ k = L) → w'.heap[k]? = w.heap[k]?) : Dn F w' d L S c rs alt := by
  obtain ⟨size, slot, m, stamp, used, count, hl⟩ := h.lg
  exact ⟨h.pd.stays fun k hk1 hf => hk k hk1 (.inl hf), h.off, h.few, h.out, ⟨size, slot, m, stamp, used, count, (hk L hl.lt (.inr rfl)).trans hl⟩, h.alts⟩
theorem Up.below (h : Up F w d L S c rs) (hb : Below w.heap.size w w') : Up F w' d L S c rs := h.stays fun k hk _ => hb.block k hk
theorem Dn.below (h : Dn F w d L S c rs alt) (hb : Below w.heap.size w w') : Dn F w' d L S c rs alt := h.stays fun k hk _ => hb.block k hk
theorem Up.mono (h : Up F w d L S c rs) (hF : ∀ k, k < w.heap.size → F k → F' k) (hL : ¬ F' L) : Up F' w d L S c rs := ⟨h.pd.mono hF, h.off, h.pend, hL, h.is⟩
theorem Dn.mono (h : Dn F w d L S c rs alt) (hF : ∀ k, k < w.heap.size → F k → F' k) (hL : ¬ F' L) : Dn F' w d L S c rs alt := ⟨h.pd.mono hF, h.off, h.few, hL, h.lg, h.alts⟩
theorem Up.more (h : Up F w d L S c rs) {c' : Nat} (hc : c ≤ c') : Up F w d L S c' rs := by
  obtain ⟨slot, m, stamp, srs, hli, hl, e, h1⟩ := h.is
  exact ⟨h.pd, h.off, h.pend, h.out, slot, m, stamp, srs, hli, hl, e, Nat.le_trans h1 hc⟩
end

theorem LI.more {L : List Cn} {slot : Nat} {m : Mk} {stamp st : Nat} {srs : List (Nat × List Int)} (h : LI L slot m stamp srs) (hle : stamp ≤ st) (hst : st ≤ maxSt) : LI L slot m st srs :=
  h.stays rfl rfl hle hst h.lies fun i hi => Nat.le_trans (h.all i hi) hle
theorem Alts.more {L : List Cn} {pend : List Wr} {stamp st : Nat} {rs alt : List (List Int)} (h : Alts L pend stamp rs alt) (hle : stamp ≤ st) (hst : st ≤ maxSt) : Alts L pend st rs alt := fun ks => by
  obtain ⟨slot, m, srs, h1, h2⟩ := h ks
  exact ⟨slot, m, srs, h1.more hle hst, h2⟩

/-- What an Append or Checkpoint leaves: q is what it tells if the power is there, next the records behind it. -/
def WrX (F : Nat → Prop) (w : World) (d L : Nat) (S : St) (c : Nat) (rs next : List (List Int)) (q nb : Nat) (e : Ending) (w' : World) : Prop :=
  ∃ (ec : Int) (S' : St), e = .returned (.int .i64 ec) ∧ Out (fun k => F k ∨ k = L) w w' ∧ S'.last.length = S.last.length ∧ S.writes ≤ S'.writes ∧ S'.writes ≤ S.writes + (nb : Int) + 1 ∧ S'.writes ≤ S.writes + 16385 ∧
    ((q ≠ 0 ∧ ec = (q : Int) ∧ Up (Gr F w) w' d L S' (c + 1) rs) ∨ (q = 0 ∧ ec = 0 ∧ Up (Gr F w) w' d L S' (c + 1) next) ∨ (q = 0 ∧ ec = 22 ∧ Dn (Gr F w) w' d L S' (c + 1) rs next))
theorem gr_mono {F : Nat → Prop} {w : World} : ∀ k, F k → Gr F w k := fun _ h => .inl h

theorem up_append {F : Nat → Prop} {w : World} {d L : Nat} {S : St} {c : Nat} {rs : List (List Int)} (h : Up F w d L S c rs) (A : Option Addr) (n cap : Nat) (zs : List Int) (hr : RB w A n zs) (hA : ∀ ad, A = some ad → 0 < n → ¬ F ad.block) (hn : n ≤ cap) (hc : cap ≤ 9223372036854775807)
    (hst : c < maxSt) (h0 : 0 ≤ S.writes) (h1 : S.writes ≤ 1152921504606846976) :
    Calls Try.prog 25 #[.pointer (some ⟨L, 0, none⟩), .slice A n cap] w (WrX F w d L S c rs (rs ++ [zs]) (ansA zs.length (usedOf rs) (areaSize S.last.length)) (nblocks zs.length)) := by
  have hzs : zs.length = n := hr.len
  obtain ⟨slot, m, stamp, srs, hli, hl, e, h2⟩ := h.is
  have hng : ¬ Gr F w L := gr_off h.out hl.lt
  have hused := h.lo.2.2
  unfold WrX
  by_cases h3 : 65536 < n
  · have hrc : refuseC false n = 3 := by unfold refuseC; rw [if_neg (by simp), if_pos (by omega)]
    rw [hzs, ansA_long h3]
    refine (wappend_refused hl A n cap (by rw [hrc]; decide)).mono ?_
    rintro e w' ⟨rfl, rfl⟩
    exact ⟨_, S, rfl, Out.of_below (Below.refl _ _) _, rfl, by omega, by omega, by omega, .inl ⟨by decide, by rw [hrc]; rfl, (h.more (Nat.le_succ _)).mono (fun k _ hf => .inl hf) hng⟩⟩
  · by_cases h4 : areaSize S.last.length < usedOf rs + nblocks n
    · rw [hzs, ansA_full h3 h4]
      refine (wappend_full hl A n cap (by omega) hused (area_le hli.hi) h4).mono ?_
      rintro e w' ⟨rfl, hb⟩
      exact ⟨_, S, rfl, Out.of_below hb _, rfl, by omega, by omega, by omega, .inl ⟨by decide, rfl, ((h.more (Nat.le_succ _)).below hb).mono (fun k _ hf => .inl hf) hng⟩⟩
    · subst hzs
      rw [ansA_do h3 h4]
      subst e
      have hnb : nblocks zs.length ≤ 16384 := by have := area_le hli.hi; omega
      obtain ⟨S', k1, k2, k3, hcase⟩ := app_any hli h.off h.pend zs (by omega) (by omega) hr.byte (by omega) h0 h1
      have hw := wappend_do h.pd hl h.out A zs.length cap zs hr hA hn hc (by omega) hli.area.1 (area_le hli.hi) (by omega) (by rw [h.pend]; simp) (by omega) (by rw [List.length_map]; have := usedOf_ge (srs.map (·.2)); have := area_le hli.hi; rw [List.length_map] at *; omega)
      rcases hcase with ⟨hr2, k4, k5, k6⟩ | ⟨hr2, k4, k5, k6⟩
      · rw [hr2] at hw
        refine hw.mono ?_
        rintro e w' ⟨rfl, hpd, hlg, ho⟩
        simp only [if_true] at hlg
        refine ⟨0, S', rfl, ho, k1, k2, by omega, by omega, .inr (.inl ⟨rfl, rfl, hpd, k4, k5, hng, slot, m, stamp + 1, _, k6, ?_, by simp, by omega⟩)⟩
        rw [k1, usedOf_snoc, List.length_append]
        exact hlg
      · rw [hr2] at hw
        refine hw.mono ?_
        rintro e w' ⟨rfl, hpd, hlg, ho⟩
        simp only at hlg
        rw [if_neg (by decide)] at hlg
        exact ⟨22, S', rfl, ho, k1, k2, by omega, by omega, .inr (.inr ⟨rfl, rfl, hpd, k4, k5, hng, ⟨_, _, _, _, _, _, hlg⟩, k6.more (by omega) (by omega)⟩)⟩

theorem up_check {F : Nat → Prop} {w : World} {d L : Nat} {S : St} {c : Nat} {rs : List (List Int)} (h : Up F w d L S c rs) (A : Option Addr) (n cap : Nat) (zs : List Int) (hr : RB w A n zs) (hA : ∀ ad, A = some ad → 0 < n → ¬ F ad.block) (hn : n ≤ cap) (hc : cap ≤ 9223372036854775807)
    (hst : c < maxSt) (h0 : 0 ≤ S.writes) (h1 : S.writes ≤ 1152921504606846976) :
    Calls Try.prog 34 #[.pointer (some ⟨L, 0, none⟩), .slice A n cap] w (WrX F w d L S c rs [zs] (ansA zs.length 0 (areaSize S.last.length)) (nblocks zs.length)) := by
  have hzs : zs.length = n := hr.len
  obtain ⟨slot, m, stamp, srs, hli, hl, e, h2⟩ := h.is
  have hng : ¬ Gr F w L := gr_off h.out hl.lt
  unfold WrX
  by_cases h3 : 65536 < n
  · have hrc : refuseC false n = 3 := by unfold refuseC; rw [if_neg (by simp), if_pos (by omega)]
    rw [hzs, ansA_long h3]
    refine (wcheck_refused hl A n cap (by rw [hrc]; decide)).mono ?_
    rintro e w' ⟨rfl, rfl⟩
    exact ⟨_, S, rfl, Out.of_below (Below.refl _ _) _, rfl, by omega, by omega, by omega, .inl ⟨by decide, by rw [hrc]; rfl, (h.more (Nat.le_succ _)).mono (fun k _ hf => .inl hf) hng⟩⟩
  · by_cases h4 : areaSize S.last.length < 0 + nblocks n
    · rw [hzs, ansA_full h3 h4]
      refine (wcheck_full hl A n cap (by omega) (area_le hli.hi) (by omega)).mono ?_
      rintro e w' ⟨rfl, hb⟩
      exact ⟨_, S, rfl, Out.of_below hb _, rfl, by omega, by omega, by omega, .inl ⟨by decide, rfl, ((h.more (Nat.le_succ _)).below hb).mono (fun k _ hf => .inl hf) hng⟩⟩
    · subst hzs
      rw [ansA_do h3 h4]
      subst e
      have hslot := hli.slot_le
      have hnb : nblocks zs.length ≤ 16384 := by have := area_le hli.hi; omega
      obtain ⟨S', k1, k2, k3, hcase⟩ := chk_any hli h.off h.pend zs (by omega) (by omega) hr.byte (by omega) h0 h1
      have hw := wcheck_do h.pd hl h.out A zs.length cap zs hr hA hn hc (by omega) hli.area.1 hli.area.2 hslot (area_le hli.hi) (by omega) (by rw [h.pend]; simp) (by omega)
      rcases hcase with ⟨hr2, k4, k5, k6⟩ | ⟨hr2, k4, k5, k6⟩
      · rw [hr2] at hw
        refine hw.mono ?_
        rintro e w' ⟨rfl, hpd, hlg, ho⟩
        simp only [if_true] at hlg
        refine ⟨0, S', rfl, ho, k1, k2, by omega, by omega, .inr (.inl ⟨rfl, rfl, hpd, k4, k5, hng, _, _, stamp + 1, _, k6, ?_, by simp, by omega⟩)⟩
        rw [k1]
        have : usedOf [zs] = nblocks zs.length := by simp [usedOf]
        rw [this]
        exact hlg
      · rw [hr2] at hw
        refine hw.mono ?_
        rintro e w' ⟨rfl, hpd, hlg, ho⟩
        simp only at hlg
        rw [if_neg (by decide)] at hlg
        exact ⟨22, S', rfl, ho, k1, k2, by omega, by omega, .inr (.inr ⟨rfl, rfl, hpd, k4, k5, hng, ⟨_, _, _, _, _, _, hlg⟩, k6.more (by omega) (by omega)⟩)⟩
end Go.Proofs.Ythpbcibjohakkaa
