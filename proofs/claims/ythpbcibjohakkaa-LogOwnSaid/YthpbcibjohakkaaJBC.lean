import Derived.Test.YthpbcibjohakkaaJBB
import Derived.Test.YthpbcibjohakkaaJBA
import Derived.Deep.RegionWith
import Derived.BigQuiet
import Derived.Deep.QuietTactic
/- Append. -/
namespace Go.Proofs.Ythpbcibjohakkaa
set_option maxRecDepth 100000
set_option maxRecDepth 100000
open Go.RowKit

/-- What an Append leaves that was begun. -/
def Appd (F : Nat → Prop) (w : World) (d L : Nat) (R : St × Int) (size slot : Nat) (m : Mk) (s1 used count nb : Nat) (e : Ending) (w' : World) : Prop :=
  e = .returned (.int .i64 R.2) ∧ PD (Gr F w) w' d R.1 ∧ (if R.2 = 0 then LgAt w' L d size slot m s1 (used + nb) (count + 1) false else LgAt w' L d size slot m s1 used count true) ∧ Out (fun k => F k ∨ k = L) w w'

set_option maxHeartbeats 8000000 in
theorem wappend_do {F : Nat → Prop} {w : World} {d L size slot : Nat} {m : Mk} {stamp used count : Nat} {S : St} (h : PD F w d S) (lg : LgAt w L d size slot m stamp used count false) (hL : ¬ F L)
    (A : Option Addr) (n c : Nat) (zs : List Int) (hr : RB w A n zs) (hA : ∀ ad, A = some ad → 0 < n → ¬ F ad.block) (hn : n ≤ c) (hc : c ≤ 9223372036854775807) (hn2 : n ≤ 65536) (ha : m.area ≤ 1) (hsz : size ≤ 16384) (hst : stamp < maxSt) (hp : S.pend.length ≤ 1000000)
    (hfit : used + nblocks n ≤ size) (hcount : count ≤ 1000000) :
    Calls Try.prog 25 #[.pointer (some ⟨L, 0, none⟩), .slice A n c] w
      (Appd F w d L (runWS S (layW zs (stamp + 1) size m.area used)) size slot m (stamp + 1) used count (nblocks n)) := by
  have RF := Lib.hid (wrefuses lg A n c)
  rw [show refuseC false n = 0 from by unfold refuseC; rw [if_neg (by simp), if_neg (by omega)]] at RF
  have NB := Lib.hid fun W => wblocksN n W (by omega)
  have RM := Lib.hid (wroom lg (by omega) hsz)
  rw [show (if false = true then 0 else size - used : Nat) = size - used from rfl] at RM
  have HLG := Lib.hid lg
  have HD := Lib.hid h
  have HR := Lib.hid hr
  have HA := Lib.hid hA
  have HL := Lib.hid hL
  have HST := Lib.hid hst
  have HP := Lib.hid hp
  obtain ⟨nb, hnb⟩ : ∃ nb, nblocks n = nb := ⟨_, rfl⟩
  rw [hnb] at hfit NB ⊢
  have hnb2 : nb ≤ 16384 := by omega
  obtain ⟨R, hR⟩ : ∃ R, runWS S (layW zs (stamp + 1) size m.area used) = R := ⟨_, rfl⟩
  have HRR := Lib.hid hR
  rw [hR]
  clear h lg hr hA hL hst hp hR hnb
  go_enter Try.func25, Try.ntmps25
  go_upto_region 4 with (go_at_call 45; refine RF.out.mono ?_; rintro e w1 ⟨rfl, rfl⟩)
  go_upto_region 6 with (first
    | (go_at_call 28; refine (NB.out _).mono ?_; rintro e w1 ⟨rfl, rfl⟩)
    | (go_at_call 19; refine RM.out.mono ?_; rintro e w1 ⟨rfl, hb1⟩; have HB1 := Lib.hid hb1; clear hb1))
  have B := HB1.out.drew
  have c4 := (HLG.out.below HB1.out).c4
  have c7 := (HLG.out.below HB1.out).c7
  go_region_held3 (fun w' => w'.cell? ⟨L, 4, none⟩ = some (.int .i64 (m.area : Int)) ∧ w'.cell? ⟨L, 7, none⟩ = some (.int .i64 (used : Int)))
    (first | exact ⟨c4, c7⟩ | exact KK)
    (first
      | (go_at_call 46; refine (wlay (HD.out.below B) (HLG.out.below B) HL.out A n c zs (HR.out.below' B) HA.out hn hc hn2 m.area used ha (by omega) hsz HST.out HP.out).mono ?_; rintro e w9 ⟨rfl, hpd, hlg, hout⟩; have KK := And.intro hlg.c4 hlg.c7))
  rw [HRR.out] at hpd ⊢
  have PD9 := Lib.hid (hpd.mono (F' := Gr F w) fun j _ hj => by
    rcases hj with hj | hj
    · exact .inl hj
    · right; have := B.size; omega)
  have OU9 := Lib.hid ((Out.of_below B (fun k => F k ∨ k = L)).then hout)
  have LG9 := Lib.hid hlg
  clear hpd hlg hout KK c4 c7 B
  obtain ⟨SR, ec⟩ := R
  simp only at PD9 ⊢
  by_cases h0 : ec = 0
  · subst h0
    have c7 := LG9.out.c7
    have f7 := LG9.out.f 7
    have c8 := LG9.out.c8
    have f8 := LG9.out.f 8
    go_upto_region 9 with fail
    go_region_with (go_at_call 28; refine (NB.out _).mono ?_; rintro e w2 ⟨rfl, rfl⟩)
    all_goals
      go_wp2
      go_ret
      unfold Appd
      rw [if_pos rfl]
      refine ⟨rfl, PD9.out.stays fun k hk hF => ?_, ?_, ((OU9.out.setCell (p := ⟨L, 7, none⟩) (.inl (.inr rfl)) _).setCell (p := ⟨L, 8, none⟩) (.inl (.inr rfl)) _).drew⟩
      · have hk2 : k ≠ L := by
          rintro rfl
          rcases hF with h1 | h1
          · exact HL.out h1
          · exact absurd HLG.out.lt (by omega)
        exact (heap_setCell_ne _ L 8 _ k hk2).trans (heap_setCell_ne _ L 7 _ k hk2)
      · have := blk_set (blk_set LG9.out 7 (.int .i64 ((used : Int) + (nb : Int)))) 8 (.int .i64 ((count : Int) + 1))
        unfold LgAt lgC
        rw [show ((used + nb : Nat) : Int) = (used : Int) + (nb : Int) from by omega, show ((count + 1 : Nat) : Int) = (count : Int) + 1 from by omega]
        exact this
  · have hne : (ec != 0) = true := by simpa using h0
    have EN := Lib.hid (wend LG9.out ec)
    have HN0 := Lib.hid h0
    clear h0
    go_wp2_with (go_at_call 47; refine EN.out.mono ?_; rintro e w10 ⟨rfl, hlg, hg⟩; have LG10 := Lib.hid hlg; have G10 := Lib.hid hg; clear hlg hg)
    go_ret
    unfold Appd
    refine ⟨rfl, PD9.out.stays (fun k hk hF => ?_), by rw [if_neg HN0.out]; exact LG10.out, OU9.out.grown G10.out (fun k hk => by injection hk with hk; exact .inl (.inr hk.symm))⟩
    refine G10.out.block k hk (fun e => ?_)
    injection e with e
    subst e
    rcases hF with h1 | h1
    · exact HL.out h1
    · exact absurd HLG.out.lt (by omega)

/-- Refused: nothing turns. -/
theorem wappend_refused {w : World} {d L size slot : Nat} {m : Mk} {stamp used count : Nat} {over : Bool} (lg : LgAt w L d size slot m stamp used count over) (A : Option Addr) (n c : Nat) (hr : refuseC over n ≠ 0) :
    Calls Try.prog 25 #[.pointer (some ⟨L, 0, none⟩), .slice A n c] w fun e w' => e = .returned (.int .i64 (refuseC over n)) ∧ w = w' := by
  have RF := Lib.hid (wrefuses lg A n c)
  obtain ⟨rc, hrc⟩ : ∃ rc, refuseC over n = rc := ⟨_, rfl⟩
  rw [hrc] at RF hr ⊢
  have hne : (rc != 0) = true := by simpa using hr
  clear lg hr hrc
  go_enter Try.func25, Try.ntmps25
  go_wp2_with (go_at_call 45; refine RF.out.mono ?_; rintro e w1 ⟨rfl, rfl⟩)
  go_ret
  exact ⟨rfl, rfl⟩
/-- No room: nothing turns. -/
theorem wappend_full {w : World} {d L size slot : Nat} {m : Mk} {stamp used count : Nat} (lg : LgAt w L d size slot m stamp used count false) (A : Option Addr) (n c : Nat) (hn2 : n ≤ 65536) (hu : used ≤ size) (hsz : size ≤ 16384) (hfull : size < used + nblocks n) :
    Calls Try.prog 25 #[.pointer (some ⟨L, 0, none⟩), .slice A n c] w fun e w' => e = .returned (.int .i64 4) ∧ Below w.heap.size w w' := by
  have RF := Lib.hid (wrefuses lg A n c)
  rw [show refuseC false n = 0 from by unfold refuseC; rw [if_neg (by simp), if_neg (by omega)]] at RF
  have NB := Lib.hid fun W => wblocksN n W (by omega)
  have RM := Lib.hid (wroom lg hu hsz)
  rw [show (if false = true then 0 else size - used : Nat) = size - used from rfl] at RM
  obtain ⟨nb, hnb⟩ : ∃ nb, nblocks n = nb := ⟨_, rfl⟩
  rw [hnb] at hfull NB
  have h1 : size - used < nb := by omega
  clear lg hnb
  go_enter Try.func25, Try.ntmps25
  go_wp2_with (first
    | (go_at_call 45; refine RF.out.mono ?_; rintro e w1 ⟨rfl, rfl⟩)
    | (go_at_call 28; refine (NB.out _).mono ?_; rintro e w1 ⟨rfl, rfl⟩)
    | (go_at_call 19; refine RM.out.mono ?_; rintro e w1 ⟨rfl, hb1⟩; have HB1 := Lib.hid hb1; clear hb1))
  go_ret
  exact ⟨rfl, HB1.out⟩
end Go.Proofs.Ythpbcibjohakkaa

/- Checkpoint. -/
namespace Go.Proofs.Ythpbcibjohakkaa
set_option maxRecDepth 100000
set_option maxRecDepth 100000
open Go.RowKit

theorem runWS_pend {S : St} {ws : List (Nat × List Int)} (h : (runWS S ws).2 = 0) : (runWS S ws).1.pend = [] := by
  unfold runWS at h ⊢
  split at h
  · rename_i h0
    rw [if_pos h0]
    simp only at h ⊢
    unfold syncE spendE at h
    unfold syncS
    split at h
    · cases h
    · rename_i h1
      split at h
      · cases h
      · rename_i h2
        rw [if_neg h1, if_neg h2]
  · rename_i h0
    exact absurd h h0

/-- What a Checkpoint does to the disk. -/
def ckR (S : St) (zs : List Int) (s1 size slot : Nat) (m : Mk) : St × Int :=
  if (runWS S (layW zs s1 size (1 - m.area) 0)).2 = 0 then runWS (runWS S (layW zs s1 size (1 - m.area) 0)).1 (turnW slot ⟨m.next, 1 - m.area, s1⟩ size) else runWS S (layW zs s1 size (1 - m.area) 0)
/-- What a Checkpoint leaves that was begun. -/
def Ckd (F : Nat → Prop) (w : World) (d L : Nat) (R : St × Int) (size slot : Nat) (m : Mk) (s1 used count nb : Nat) (e : Ending) (w' : World) : Prop :=
  e = .returned (.int .i64 R.2) ∧ PD (Gr F w) w' d R.1 ∧ (if R.2 = 0 then LgAt w' L d size (1 - slot) ⟨m.next, 1 - m.area, s1⟩ s1 nb 1 false else LgAt w' L d size slot m s1 used count true) ∧ Out (fun k => F k ∨ k = L) w w'

theorem gr_up2 {F : Nat → Prop} {w w1 : World} (hz : w.heap.size ≤ w1.heap.size) : ∀ j, Gr (Gr F w) w1 j → Gr F w j := fun j hj => by
  rcases hj with hj | hj
  · exact hj
  · right; omega
theorem gr_off {F : Nat → Prop} {w : World} {L : Nat} (h1 : ¬ F L) (h2 : L < w.heap.size) : ¬ Gr F w L := fun hh => by
  rcases hh with h | h
  · exact h1 h
  · omega
theorem PD.far1 {F : Nat → Prop} {w w' : World} {d L : Nat} {S : St} (h : PD F w d S) (hL : ¬ F L) (hg : w.grownBy w' (some L)) : PD F w' d S := h.stays fun k hk hF => hg.block k hk (fun e => by injection e with e; subst e; exact hL hF)

set_option maxHeartbeats 8000000 in
theorem wcheck_do {F : Nat → Prop} {w : World} {d L size slot : Nat} {m : Mk} {stamp used count : Nat} {S : St} (h : PD F w d S) (lg : LgAt w L d size slot m stamp used count false) (hL : ¬ F L)
    (A : Option Addr) (n c : Nat) (zs : List Int) (hr : RB w A n zs) (hA : ∀ ad, A = some ad → 0 < n → ¬ F ad.block) (hn : n ≤ c) (hc : c ≤ 9223372036854775807) (hn2 : n ≤ 65536) (ha : m.area ≤ 1) (hmt : m.turn ≤ 2) (hsl : slot ≤ 1) (hsz : size ≤ 16384) (hst : stamp < maxSt) (hp : S.pend.length ≤ 1000000)
    (hfit : nblocks n ≤ size) :
    Calls Try.prog 34 #[.pointer (some ⟨L, 0, none⟩), .slice A n c] w
      (Ckd F w d L (ckR S zs (stamp + 1) size slot m) size slot m (stamp + 1) used count (nblocks n)) := by
  have RF := Lib.hid (wrefuses lg A n c)
  rw [show refuseC false n = 0 from by unfold refuseC; rw [if_neg (by simp), if_neg (by omega)]] at RF
  have NB := Lib.hid fun W => wblocksN n W (by omega)
  obtain ⟨nb, hnb⟩ : ∃ nb, nblocks n = nb := ⟨_, rfl⟩
  rw [hnb] at hfit NB ⊢
  have NBq := Lib.hid fun W => (NB.out W).mono fun e w' (h : _ ∧ _) => (⟨h.1, h.2.symm⟩ : e = .returned (.int .i64 (nb : Int)) ∧ w' = W)
  obtain ⟨oa, hoa⟩ : ∃ oa, 1 - m.area = oa := ⟨_, rfl⟩
  have hoa2 : oa ≤ 1 := by omega
  have EA := Lib.hid (show (1 : Int) - (m.area : Int) = (oa : Int) by omega)
  have hai : (m.area : Int) ≤ 1 := by omega
  have LAY := Lib.hid fun W (B : Below w.heap.size w W) => show Calls Try.prog 46 #[.pointer (some ⟨L, 0, none⟩), .slice A n c, .int .i64 (oa : Int), .int .i64 0] W (Laid F W d L (runWS S (layW zs (stamp + 1) size oa 0)) size slot m (stamp + 1) used count false) from wlay (h.below B) (lg.below B) hL A n c zs (hr.below' B) hA hn hc hn2 oa 0 hoa2 (by omega) hsz hst hp
  obtain ⟨R1, hR1⟩ : ∃ R, runWS S (layW zs (stamp + 1) size oa 0) = R := ⟨_, rfl⟩
  rw [hR1] at LAY
  have HP1 := Lib.hid (fun (h0 : R1.2 = 0) => show R1.1.pend.length ≤ 1000000 by
    rw [← hR1] at h0 ⊢; rw [runWS_pend h0]; simp)
  obtain ⟨s1, hs1⟩ : ∃ s1, stamp + 1 = s1 := ⟨_, rfl⟩
  rw [hs1] at LAY hR1 ⊢
  have HS1 := Lib.hid (show s1 ≤ maxSt by omega)
  obtain ⟨R2, hR2⟩ : ∃ R, runWS R1.1 (turnW slot ⟨m.next, oa, s1⟩ size) = R := ⟨_, rfl⟩
  have HCK := Lib.hid (show ckR S zs s1 size slot m = if R1.2 = 0 then R2 else R1 by unfold ckR; rw [hoa, hR1, hR2])
  have c1 := lg.c1
  have c4 := lg.c4
  have HLT := Lib.hid lg.lt
  have HL := Lib.hid hL
  have HOA := Lib.hid hoa
  have HR2 := Lib.hid hR2
  clear h lg hr hA hL hst hp hnb hR1 hR2 hoa ha hs1
  go_enter Try.func34, Try.ntmps34
  go_upto_region 4 with (go_at_call 45; refine RF.out.mono ?_; rintro e w1 ⟨rfl, rfl⟩)
  go_quiet ((go_at_call 28; exact Calls.quiet_of_same (NBq.out _)))
  go_upto_region 7 with fail
  rw [EA.out]
  have B : Below w.heap.size w (w.drewN nq) := Joins.below_draws _ _ _
  go_upto_region 8 with (go_at_call 46; refine (LAY.out _ B).mono ?_; rintro e w9 ⟨rfl, hpd, hlg, hout⟩)
  have NG := Lib.hid (gr_off (F := F) (w := w) HL.out HLT.out)
  have PD9 := Lib.hid (hpd.mono (F' := Gr F w) fun j _ hj => by
    rcases hj with hj | hj
    · exact .inl hj
    · right; have := B.size; omega)
  have OU9 := Lib.hid ((Out.of_below B (fun k => F k ∨ k = L)).then hout)
  have LG9 := Lib.hid hlg
  clear hpd hlg hout c1 c4 B LAY
  obtain ⟨SR, ec⟩ := R1
  simp only at PD9 HP1 HR2 HCK ⊢
  by_cases h0 : ec = 0
  · subst h0
    have HCK2 := Lib.hid (show ckR S zs s1 size slot m = R2 by rw [HCK.out, if_pos rfl])
    have TT := Lib.hid (wturnTo PD9.out LG9.out NG.out oa hoa2 hsl hmt HS1.out hsz (HP1.out rfl))
    rw [HR2.out] at TT
    clear HCK HR2 HP1
    go_upto_region 11 with (go_at_call 38; refine TT.out.mono ?_; rintro e w10 ⟨rfl, hpd, hlg, hout⟩)
    obtain ⟨SR2, ec2⟩ := R2
    simp only at hpd hlg ⊢
    have HZ9 := Lib.hid OU9.out.size
    have PD10 := Lib.hid (hpd.mono (F' := Gr F w) fun j _ hj => gr_up2 HZ9.out j hj)
    have OU10 := Lib.hid (OU9.out.trans hout (fun i hi hj => by
      rcases hj with hj | hj
      · rcases hj with hj | hj
        · exact .inl hj
        · omega
      · exact .inr hj))
    clear hpd hout TT
    by_cases h1 : ec2 = 0
    · subst h1
      rw [if_pos rfl] at hlg
      have c7 := hlg.c7
      have f7 := hlg.f 7
      have c8 := hlg.c8
      have f8 := hlg.f 8
      have LG10 := Lib.hid hlg
      clear hlg
      go_wp2_with (go_at_call 28; refine (NB.out _).mono ?_; rintro e w11 ⟨rfl, rfl⟩)
      go_ret
      unfold Ckd
      rw [HCK2.out, if_pos rfl]
      refine ⟨rfl, PD10.out.stays fun k hk hF => ?_, ?_, (OU10.out.setCell (p := ⟨L, 7, none⟩) (.inl (.inr rfl)) _).setCell (p := ⟨L, 8, none⟩) (.inl (.inr rfl)) _⟩
      · have hk2 : k ≠ L := by
          rintro rfl
          exact NG.out hF
        exact (heap_setCell_ne _ L 8 _ k hk2).trans (heap_setCell_ne _ L 7 _ k hk2)
      · have := blk_set (blk_set LG10.out 7 (.int .i64 (nb : Int))) 8 (.int .i64 1)
        rw [HOA.out]
        exact this
    · have hne : (ec2 != 0) = true := by simpa using h1
      rw [if_neg h1] at hlg
      have EN := Lib.hid (wend hlg ec2)
      have HN0 := Lib.hid h1
      clear h1 hlg
      go_wp2_with (go_at_call 47; refine EN.out.mono ?_; rintro e w11 ⟨rfl, hlg, hg⟩; have LG11 := Lib.hid hlg; have G11 := Lib.hid hg; clear hlg hg)
      go_ret
      unfold Ckd
      rw [HCK2.out]
      exact ⟨rfl, PD10.out.far1 NG.out G11.out, by rw [if_neg HN0.out]; exact LG11.out, OU10.out.grown G11.out (fun k hk => by injection hk with hk; exact .inl (.inr hk.symm))⟩
  · have hne : (ec != 0) = true := by simpa using h0
    have HCK2 := Lib.hid (show ckR S zs s1 size slot m = (SR, ec) by rw [HCK.out, if_neg h0])
    have EN := Lib.hid (wend LG9.out ec)
    have HN0 := Lib.hid h0
    clear h0 HCK HR2 HP1
    go_wp2_with (go_at_call 47; refine EN.out.mono ?_; rintro e w10 ⟨rfl, hlg, hg⟩; have LG10 := Lib.hid hlg; have G10 := Lib.hid hg; clear hlg hg)
    go_ret
    unfold Ckd
    rw [HCK2.out]
    exact ⟨rfl, PD9.out.far1 NG.out G10.out, by rw [if_neg HN0.out]; exact LG10.out, OU9.out.grown G10.out (fun k hk => by injection hk with hk; exact .inl (.inr hk.symm))⟩
end Go.Proofs.Ythpbcibjohakkaa

/- Writes while the power is there and no plan says otherwise: over plain states. -/
namespace Go.Proofs.Ythpbcibjohakkaa
set_option maxRecDepth 100000
set_option maxRecDepth 100000
open Go.RowKit

/-- The power is there, no plan turns it off, nothing waits. -/
structure Calm (S : St) : Prop where
  off : S.off = false
  plan : S.plan = -1
  pend : S.pend = []
/-- Blocks laid over blocks. -/
def overW (L : List Cn) (ws : List (Nat × List Int)) : List Cn := ws.foldl (fun l x => l.set x.1 ⟨x.2, false⟩) L
theorem overW_len (L : List Cn) (ws : List (Nat × List Int)) : (overW L ws).length = L.length := by
  unfold overW
  induction ws generalizing L with
  | nil => rfl
  | cons x ws ih => rw [List.foldl_cons, ih]; simp
theorem overW_app (L : List Cn) (a b : List (Nat × List Int)) : overW L (a ++ b) = overW (overW L a) b := by simp [overW]
theorem overW_out (L : List Cn) (ws : List (Nat × List Int)) (n : Nat) (h : ∀ x ∈ ws, x.1 ≠ n) : (overW L ws)[n]? = L[n]? := by
  unfold overW
  induction ws generalizing L with
  | nil => rfl
  | cons x ws ih =>
    rw [List.foldl_cons, ih _ (fun y hy => h y (List.mem_cons_of_mem _ hy)), List.getElem?_set_ne (h x (List.mem_cons_self ..))]
theorem layAll_overW : ∀ (ws : List (Nat × List Int)) (L : List Cn), layAll L (ws.map fun x => (⟨x.1, x.2⟩ : Wr)) (ones ws.length) = overW L ws
  | [], L => by simp [overW, layAll, ones]
  | x :: ws, L => by
    have e : ones (x :: ws).length = 1 :: ones ws.length := by simp [ones, List.replicate_succ]
    rw [e, List.map_cons, layAll, layAll_overW ws]
    unfold overW
    rw [List.foldl_cons]
    first | rfl | (congr 1; unfold settleL; simp)

theorem runW_calm : ∀ (ws : List (Nat × List Int)) (S : St), S.off = false → S.plan = -1 → (∀ x ∈ ws, x.1 < S.last.length ∧ x.2.length = 64) →
    ∃ wr, runW S ws = ({ S with pend := S.pend ++ ws.map (fun x => (⟨x.1, x.2⟩ : Wr)), writes := wr }, 0)
  | [], S, _, _, _ => ⟨S.writes, by simp [runW]⟩
  | x :: ws, S, ho, hp, hw => by
    have h1 := hw x (List.mem_cons_self ..)
    have hE : writeE S (x.1 : Int) 64 = 0 := by
      unfold writeE spendE
      rw [ho, hp]
      simp
      omega
    have hS : writeS S (x.1 : Int) x.2 = { S with pend := S.pend ++ [⟨x.1, x.2⟩], writes := wrap64 (S.writes + 1) } := by
      have hsp : spendS S = S := by unfold spendS; rw [if_pos hp]
      unfold writeS
      rw [if_neg (by simp [ho]), if_neg (by omega), if_neg (by rw [h1.2]; simp), if_neg (by rw [hp]; decide), hsp, Int.toNat_natCast]
    obtain ⟨wr, hr⟩ := runW_calm ws { S with pend := S.pend ++ [⟨x.1, x.2⟩], writes := wrap64 (S.writes + 1) } ho hp (fun y hy => hw y (List.mem_cons_of_mem _ hy))
    refine ⟨wr, ?_⟩
    rw [runW, if_pos hE, hS, hr]
    simp
theorem runWS_calm (S : St) (ws : List (Nat × List Int)) (h : Calm S) (hw : ∀ x ∈ ws, x.1 < S.last.length ∧ x.2.length = 64) :
    ∃ S', runWS S ws = (S', 0) ∧ Calm S' ∧ S'.last = overW S.last ws := by
  obtain ⟨wr, hr⟩ := runW_calm ws S h.off h.plan hw
  unfold runWS
  rw [hr]
  simp only [if_true]
  unfold syncS syncE spendE
  simp only [h.off, h.plan]
  refine ⟨_, rfl, ⟨?_, ?_, rfl⟩, ?_⟩
  · simp [spendS, h.off, h.plan]
  · simp [spendS, h.plan]
  · simp only [h.pend, List.nil_append, List.length_map]
    exact layAll_overW ws S.last

/-- How many writes are counted. -/
theorem writeS_wr (S : St) (n : Int) (b : List Int) (h0 : 0 ≤ S.writes) (h1 : S.writes + 1 ≤ 4611686018427387904) : S.writes ≤ (writeS S n b).writes ∧ (writeS S n b).writes ≤ S.writes + 1 := by
  have hsp : (spendS S).writes = S.writes := by unfold spendS; split <;> (try split) <;> rfl
  have hwr : wrap64 (S.writes + 1) = S.writes + 1 := by unfold wrap64; omega
  unfold writeS
  split
  · omega
  · split
    · omega
    · split
      · omega
      · split
        · rw [hsp]; omega
        · simp only; rw [hwr]; omega
theorem runW_wr : ∀ (ws : List (Nat × List Int)) (S : St), 0 ≤ S.writes → S.writes + (ws.length : Int) ≤ 4611686018427387904 → S.writes ≤ (runW S ws).1.writes ∧ (runW S ws).1.writes ≤ S.writes + (ws.length : Int)
  | [], S, h0, _ => by simp [runW]
  | x :: ws, S, h0, h1 => by
    rw [List.length_cons] at h1
    have h := writeS_wr S (x.1 : Int) x.2 h0 (by omega)
    rw [runW]
    split
    · have ih := runW_wr ws (writeS S (x.1 : Int) x.2) (by omega) (by omega)
      rw [List.length_cons]
      omega
    · rw [List.length_cons]
      simp only
      omega
theorem syncS_wr (S : St) : (syncS S).writes = S.writes := by
  have hsp : (spendS S).writes = S.writes := by unfold spendS; split <;> (try split) <;> rfl
  unfold syncS
  split
  · rfl
  · split
    · exact hsp
    · exact hsp
theorem runWS_wr (ws : List (Nat × List Int)) (S : St) (h0 : 0 ≤ S.writes) (h1 : S.writes + (ws.length : Int) ≤ 4611686018427387904) : S.writes ≤ (runWS S ws).1.writes ∧ (runWS S ws).1.writes ≤ S.writes + (ws.length : Int) := by
  have h := runW_wr ws S h0 h1
  unfold runWS
  split
  · simp only
    rw [syncS_wr]
    exact h
  · exact h
end Go.Proofs.Ythpbcibjohakkaa
