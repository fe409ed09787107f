import Derived.Test.YtknppiebncdjmaaGreatJAV
/- Layer 10: Scan. -/
namespace Go.Proofs.YtknppiebncdjmaaGreat
set_option maxRecDepth 100000
set_option maxRecDepth 100000
open Go.RowKit Go.Maps Go.ChangeMaps Go.MapKept

theorem who_mem {H : List Hd} {tb lo hi : ByteArray} {x : Int} (h : x ∈ riseP (whoP H tb lo hi)) : ∃ p ∈ H, p.2 = x := by
  have h2 := ((rise_is (whoP H tb lo hi)).2 x).1 h
  unfold whoP at h2
  obtain ⟨p, hp, e⟩ := List.mem_map.1 h2
  exact ⟨p, (List.mem_filter.1 hp).1, e⟩
section
variable {M : MF} {w : World} {b ab kb fb lm lr rr : Nat} {GR : Nat → Prop} {c : Cp10} {P : Pg}
set_option maxHeartbeats 8000000 in
theorem wxScan (I : Api9 M) (h : Mem10 M w b ab kb fb lm lr rr GR c P) (hc : PgOk c P) (hw : WfP P) {tx : Int} (hx : (Lit.int .i64 tx).wf = true) {tb lo hi : ByteArray} (htb : tb.size ≤ 140737488351232) (hlo : lo.size ≤ 140737488351232) :
    Calls Tryz.prog 33 #[.pointer (some ⟨b, 0, none⟩), .int .i64 tx, .string tb, .string lo, .string hi] w fun e w' => ∃ zs, (isAct P tx = true → (!(hi.toList == []) && !klB lo hi) = false → KwIs P tx tb lo hi zs) ∧ e = .returned (.int .i64 (scanG c P tx tb lo hi zs).1) ∧ LeftG M w w' b ab kb fb lm lr rr GR c (scanG c P tx tb lo hi zs).2 := by
  have CR := Lib.hid (wxRef h hc hx)
  have md := h.below I (Below.refl w.heap.size w).drew
  have CK := Lib.hid (fun (w1 : World) (m : Mem10 M w1 b ab kb fb lm lr rr GR c P) => wxKw I m hc tx tb lo hi)
  have CL := Lib.hid (fun (w1 : World) (m : Mem10 M w1 b ab kb fb lm lr rr GR c P) => wkHolders m.lok tb lo hi)
  have CN := Lib.hid (fun (w1 : World) (m : Mem10 M w1 b ab kb fb lm lr rr GR c P) (A : Option Addr) (n d : Nat) (os : List Int) (hA : SB w1 A n (numC os)) (hn : os.length = n) (hd : n ≤ d) (hm : d ≤ maxLen) (hle : n ≤ 1000000) (hwf : ∀ o ∈ os, (Lit.int .i64 o).wf = true) (hAG : ∀ ad, A = some ad → w.heap.size ≤ ad.block) => wxNote I m hc hx ⟨tb, 2, lo, hi⟩ ⟨hlo, htb⟩ hA hn hd hm hle hwf (fun ad e hg => by have := hAG ad e; have := (h.lt I).1 _ (.inr hg); omega))
  have c9 := h.cells.2.2.2.2.2.2.2.2.2.1
  have MD := Lib.hid md
  have HM := Lib.hid h
  have HW := Lib.hid hw
  have HKL := Lib.hid (show P.kep.length ≤ 1024 by have := hc.nk; have := hc.ck; omega)
  have HHL := Lib.hid (show P.H.length ≤ 4096 by have := h.lok.len; have := h.lok.m2; omega)
  clear h hc hw hx md
  unfold refG at *
  unfold rdV at CN
  simp only at CN
  cases ha : isAct P tx with
  | false =>
    rw [ha] at CR
    have HG := Lib.hid (show ∀ zs, scanG c P tx tb lo hi zs = (101, P) from fun zs => by unfold scanG; rw [if_pos ha])
    clear ha
    go_enter Tryz.func33, Tryz.ntmps33
    go_wp2_with (go_at_call 48; go_loud (refine CR.out.mono ?_; rintro e w1 ⟨rfl, hw⟩; replace hw := hw.symm; subst hw))
    go_ret
    exact ⟨[], by simp, by rw [HG.out]; rfl, by rw [HG.out]; exact LeftG.refl I HM.out (Below.refl _ _)⟩
  | true =>
    rw [ha] at CR
    cases hq : (!(hi.toList == []) && !klB lo hi) with
    | true =>
      have HG := Lib.hid (show ∀ zs, scanG c P tx tb lo hi zs = (0, P) from fun zs => by unfold scanG; rw [if_neg (by simp [ha]), if_pos hq])
      obtain ⟨h1, h2⟩ := (Bool.and_eq_true _ _).mp hq
      have e1 : (hi.toList == []) = false := by simpa using h1
      have e2 : Op.bytesLess lo.toList hi.toList = false := (show klB lo hi = false by simpa using h2)
      have e3 := bl_le8 hi lo
      unfold klB at e3
      rw [e2] at e3
      have e4 : (Op.bytesLess hi.toList lo.toList || hi.toList == lo.toList) = true := by
        cases hz : (Op.bytesLess hi.toList lo.toList || hi.toList == lo.toList) with
        | true => rfl
        | false => rw [hz] at e3; cases e3
      clear ha hq h1 h2 e3
      cases e5 : Op.bytesLess hi.toList lo.toList <;> cases e6 : (hi.toList == lo.toList)
      all_goals first | (rw [e5, e6] at e4; cases e4) | skip
      all_goals
        go_enter Tryz.func33, Tryz.ntmps33
        go_wp2_with (go_at_call 48; go_loud (refine CR.out.mono ?_; rintro e w1 ⟨rfl, hw⟩; replace hw := hw.symm; subst hw))
        go_ret
        exact ⟨[], by simp, by rw [HG.out]; rfl, by rw [HG.out]; exact LeftG.refl I HM.out (Below.refl _ _)⟩
    | false =>
      have HG := Lib.hid (show ∀ zs, scanG c P tx tb lo hi zs = noteG c P tx ⟨tb, 2, lo, hi⟩ (zs ++ riseP (whoP P.H tb lo hi)) from fun zs => by unfold scanG; rw [if_neg (by rw [ha]; simp), if_neg (by rw [hq]; simp)])
      have HHW := Lib.hid (show ∀ y ∈ riseP (whoP P.H tb lo hi), (Lit.int .i64 y).wf = true from fun y hy => by
        obtain ⟨p, hp, e⟩ := who_mem hy
        rw [← e]; exact HW.out.h p hp)
      obtain ⟨hs, hhs⟩ : ∃ q, riseP (whoP P.H tb lo hi) = q := ⟨_, rfl⟩
      have HHN := Lib.hid (show hs.length ≤ 4096 by
        rw [← hhs]
        have h1 := rise_len (whoP P.H tb lo hi) (whoP P.H tb lo hi).length
        rw [List.take_length] at h1
        have h2 : (whoP P.H tb lo hi).length ≤ P.H.length := by unfold whoP; rw [List.length_map]; exact List.length_filter_le _ _
        have := HHL.out
        omega)
      rw [hhs] at CL HG HHW
      have HQ1 : (hi.toList == []) = false → Op.bytesLess hi.toList lo.toList = true → False := fun h1 h2 => by
        have h3 : klB lo hi = false := by rw [bl_le8 hi lo, h2]; rfl
        rw [h1, h3] at hq; cases hq
      have HQ2 : (hi.toList == []) = false → (hi.toList == lo.toList) = true → False := fun h1 h2 => by
        have h3 : klB lo hi = false := by rw [bl_le8 hi lo, h2, Bool.or_true]; rfl
        rw [h1, h3] at hq; cases hq
      clear ha hq hhs
      cases e4 : (hi.toList == []) <;> cases e5 : Op.bytesLess hi.toList lo.toList <;> cases e6 : (hi.toList == lo.toList)
      all_goals first | exact (HQ1 e4 e5).elim | exact (HQ2 e4 e6).elim | skip
      all_goals
        clear HQ1 HQ2
        go_enter Tryz.func33, Tryz.ntmps33
        go_upto_region 6 with (go_at_call 48; go_loud (refine CR.out.mono ?_; rintro e w1 ⟨rfl, hw⟩; replace hw := hw.symm; subst hw))
        have hS : w.cell? ⟨b, 9, none⟩ = some (.pointer (some ⟨lm, 0, none⟩)) := c9
        have K9 := Lib.hid (show ∀ w1, Below w.heap.size w w1 → w1.cell? ⟨b, 9, none⟩ = some (.pointer (some ⟨lm, 0, none⟩)) from fun w1 g => keep_below c9 g)
        go_region_held3 (fun w' => w'.cell? ⟨b, 9, none⟩ = some (.pointer (some ⟨lm, 0, none⟩))) (first | exact hS | exact S4 | exact S3 | exact S2)
          (first
            | (go_at_call 83; go_loud (refine (CK.out _ HO1.out.1).mono ?_; rintro e w3 ⟨v3, zs, rfl, o3, k3, b3⟩; have bv := below_next HO1.out.2.2 b3; have OK := Lib.hid (o3.base HO1.out.2.2.size rfl rfl); have OH := Lib.hid (HO1.out.2.1.below b3); have BV := Lib.hid bv; have K3 := Lib.hid k3; have S3 := K9.out _ bv; clear b3 o3 k3 bv))
            | (go_at_call 84; go_loud (refine (CL.out _ KO1.out.1).mono ?_; rintro e w3 ⟨v4, rfl, o3, b3⟩; have bv := below_next KO1.out.2.2.2 b3; have OH := Lib.hid (o3.base KO1.out.2.2.2.size rfl rfl); have OK := Lib.hid (KO1.out.2.1.below b3); have BV := Lib.hid bv; have K3 := Lib.hid KO1.out.2.2.1; have S3 := K9.out _ bv; clear b3 o3 bv))
            | (go_at_call 83; go_loud (refine (CK.out _ MD.out).mono ?_; rintro e w2 ⟨v3, zs, rfl, o3, k3, b3⟩; have bv := ((Below.refl w.heap.size w).drew.trans b3); have KO1 := Lib.hid (And.intro (HM.out.below I bv) (And.intro o3 (And.intro k3 bv))); have S2 := K9.out _ bv; clear b3 o3 k3 bv))
            | (go_at_call 84; go_loud (refine (CL.out _ MD.out).mono ?_; rintro e w2 ⟨v4, rfl, o3, b3⟩; have bv := ((Below.refl w.heap.size w).drew.trans b3); have HO1 := Lib.hid (And.intro (HM.out.below I bv) (And.intro o3 bv)); have S2 := K9.out _ bv; clear b3 o3 bv))
            | (obtain ⟨A4, d4, rfl, sb4, hn4, hm4, ha4⟩ := OH.out.form; refine so_step seN_ok (by rfl) (.tmp 31) (.tmp 39) (by rfl) _ (by rfl) OK.out A4 hs.length d4 (numC hs) (by rfl) sb4 (by have := K3.out.2; have := HKL.out; have := HHN.out; omega) BV.out.size ?_; intro v5 w5 o5 b5; have S4 := K9.out _ (BV.out.trans b5); have O5 := Lib.hid o5; have B5 := Lib.hid (BV.out.trans b5); clear o5 b5 sb4 hn4 hm4 ha4))
        all_goals
          obtain ⟨A, d, rfl, hsb, hnd, hdm, hab⟩ := O5.out.form
          have hsb : SB w5 A (zs.length + hs.length) (numC (zs ++ hs)) := by
            have := hsb
            rw [show seN.s = 1 from rfl, Nat.one_mul] at this
            rwa [show numC (zs ++ hs) = numC zs ++ numC hs by simp [numC]]
          have M5 := HM.out.below I B5.out
          have CN2 := Lib.hid (CN.out w5 M5 A (zs.length + hs.length) d (zs ++ hs) hsb (by simp) hnd hdm (by have := K3.out.2; have := HKL.out; have := HHN.out; omega) (fun o h => (List.mem_append.1 h).elim (fun h => kw_wf HW.out K3.out o h) (fun h => HHW.out o h)) hab)
          have HG2 := Lib.hid (HG.out zs)
          obtain ⟨rp, hrp⟩ : ∃ q, noteG c P tx ⟨tb, 2, lo, hi⟩ (zs ++ hs) = q := ⟨_, rfl⟩
          rw [hrp] at HG2 CN2
          clear hsb hnd hdm hab hrp M5
          go_wp2_with (go_at_call 76; go_loud (refine CN2.out.mono ?_; rintro e w6 ⟨rfl, l6⟩; have L6 := Lib.hid l6; clear l6))
          go_ret
          exact ⟨zs, fun _ _ => K3.out, by rw [HG2.out]; rfl, by rw [HG2.out]; exact L6.out.after B5.out⟩
end
end Go.Proofs.YtknppiebncdjmaaGreat

/- Layer 10: Write. -/
namespace Go.Proofs.YtknppiebncdjmaaGreat
set_option maxRecDepth 100000
set_option maxRecDepth 100000
open Go.RowKit Go.Maps Go.ChangeMaps Go.MapKept

def takeG (c : Cp10) (P : Pg) (tx : Int) (l : Lk) (last : Int) : Int × List Hd := takeP c.locks P.H tx ((getA P.act tx).getD 0) last l
def writeG (c : Cp10) (P : Pg) (tx : Int) (l : Lk) (last : Int) (zs : List Int) : Int × Pg :=
  if isAct P tx = false then (101, P) else if last < 0 then (1, P) else if holderP P.H l = some tx then (0, P)
  else if (takeG c P tx l last).1 ≠ 0 then ((takeG c P tx l last).1, abortG { P with H := (takeG c P tx l last).2 } tx)
  else if zs ≠ [] then (81, abortG { P with H := (takeG c P tx l last).2 } tx)
  else dependG { P with H := (takeG c P tx l last).2 } tx (txP P.L fun n => hasP n.2 l.1 l.2) (true, false) (false, true)
theorem tx_mem {L : List Nt} {f : Nt → Bool} {x : Int} (h : x ∈ txP L f) : ∃ n ∈ L, n.1 = x := by
  unfold txP at h
  obtain ⟨n, hn, e⟩ := List.mem_map.1 (((rise_is _).2 x).1 h)
  exact ⟨n, (List.mem_filter.1 hn).1, e⟩
theorem tx_len {L : List Nt} {f : Nt → Bool} : (txP L f).length ≤ L.length := by
  unfold txP
  have h1 := rise_len ((L.filter f).map (·.1)) ((L.filter f).map (·.1)).length
  rw [List.take_length, List.length_map] at h1
  exact Nat.le_trans h1 (List.length_filter_le _ _)
section
variable {M : MF} {w : World} {b ab kb fb lm lr rr : Nat} {GR : Nat → Prop} {c : Cp10} {P : Pg}
set_option maxHeartbeats 8000000 in
theorem wxWrite (I : Api9 M) (h : Mem10 M w b ab kb fb lm lr rr GR c P) (hc : PgOk c P) (hw : WfP P) {tx : Int} (hx : (Lit.int .i64 tx).wf = true) {l : Lk} (hl : Sz2 l) (last : Int) :
    Calls Tryz.prog 16 #[.pointer (some ⟨b, 0, none⟩), .int .i64 tx, lkV l, .int .i64 last] w fun e w' => ∃ zs, (isAct P tx = true → 0 ≤ last → holderP P.H l ≠ some tx → (takeG c P tx l last).1 = 0 → KwIs P tx l.1 l.2 (l.2 ++ ⟨#[0]⟩) zs) ∧ e = .returned (.int .i64 (writeG c P tx l last zs).1) ∧ LeftG M w w' b ab kb fb lm lr rr GR c (writeG c P tx l last zs).2 := by
  obtain ⟨W, hW⟩ : ∃ W, w.alloc (.cells #[.string l.1, .string l.2] 42) = W := ⟨_, rfl⟩
  have hB : Below w.heap.size w W := by rw [← hW]; exact (Below.refl _ _).alloc (Nat.le_refl _) _
  have q0 : W.heap[w.heap.size]? = some (.cells #[.string l.1, .string l.2] 42 (0, 0)) := by rw [← hW]; exact heap_alloc_new _ _
  have x0 : W.cell? ⟨w.heap.size, 0, none⟩ = some (.string l.1) := cell_of_row _ _ 0 _ _ _ q0
  have x1 : W.cell? ⟨w.heap.size, 1, none⟩ = some (.string l.2) := cell_of_row _ _ 1 _ _ _ q0
  have m1 := h.below I hB
  have CR := Lib.hid (wxRef m1 hc hx)
  have CH := Lib.hid (fun (w1 : World) (m : Mem10 M w1 b ab kb fb lm lr rr GR c P) => wxHolds m hl.sz tx)
  have M1 := Lib.hid m1
  have HM := Lib.hid h
  have HB := Lib.hid hB
  have HS1 := Lib.hid (show W.heap.size = w.heap.size + 1 by rw [← hW]; simp)
  have HC := Lib.hid hc
  have HX := Lib.hid hx
  have HW := Lib.hid hw
  have HL := Lib.hid hl
  have HLT := Lib.hid h.blt
  have HGR := Lib.hid (show ∀ k, GR k → k < w.heap.size from fun k hk => (h.lt I).1 k (.inr hk))
  clear h hc hw hx hl q0 m1 hB
  unfold lkV refG at *
  cases ha : isAct P tx with
  | false =>
    rw [ha] at CR
    have HG := Lib.hid (show ∀ zs, writeG c P tx l last zs = (101, P) from fun zs => by unfold writeG; rw [if_pos ha])
    clear ha
    go_enter Tryz.func16, Tryz.ntmps16
    go_upto_region 1 with fail
    try rw [hW]
    go_wp2_with (go_at_call 48; go_loud (refine CR.out.mono ?_; rintro e w1 ⟨rfl, hw⟩; replace hw := hw.symm; subst hw))
    go_ret
    exact ⟨[], by simp, by rw [HG.out]; rfl, by rw [HG.out]; exact LeftG.refl I HM.out HB.out⟩
  | true =>
    rw [ha] at CR
    by_cases hneg : last < 0
    · have HG := Lib.hid (show ∀ zs, writeG c P tx l last zs = (1, P) from fun zs => by unfold writeG; rw [if_neg (by rw [ha]; simp), if_pos hneg])
      have HNG := Lib.hid hneg
      clear ha
      go_enter Tryz.func16, Tryz.ntmps16
      go_upto_region 1 with fail
      try rw [hW]
      go_wp2_with (go_at_call 48; go_loud (refine CR.out.mono ?_; rintro e w1 ⟨rfl, hw⟩; replace hw := hw.symm; subst hw))
      go_ret
      exact ⟨[], fun _ h => by have := HNG.out; omega, by rw [HG.out]; rfl, by rw [HG.out]; exact LeftG.refl I HM.out HB.out⟩
    · obtain ⟨ho, hh⟩ : ∃ q, holderP P.H l = q := ⟨_, rfl⟩
      have HNG := Lib.hid (show 0 ≤ last by omega)
      by_cases hown : ho = some tx
      · subst hown
        have HG := Lib.hid (show ∀ zs, writeG c P tx l last zs = (0, P) from fun zs => by unfold writeG; rw [if_neg (by rw [ha]; simp), if_neg hneg, if_pos hh])
        have HHO := Lib.hid hh
        have CH2 := Lib.hid (show ∀ w1, Mem10 M w1 b ab kb fb lm lr rr GR c P → Calls Tryz.prog 49 #[.pointer (some ⟨b, 0, none⟩), .int .i64 tx, .agg #[.string l.1, .string l.2]] w1 fun e w' => e = .returned (.bool true) ∧ Below w1.heap.size w1 w' from fun w1 m => (CH.out w1 m).mono fun e w' h => by rw [hh] at h; simpa using h)
        clear ha hh
        go_enter Tryz.func16, Tryz.ntmps16
        go_upto_region 1 with fail
        try rw [hW]
        go_wp2_with (first
          | (go_at_call 48; go_loud (refine CR.out.mono ?_; rintro e w1 ⟨rfl, hw⟩; replace hw := hw.symm; subst hw))
          | (go_at_call 49; go_loud (refine (CH2.out _ M1.out).mono ?_; rintro e w2 ⟨rfl, b2⟩; have B2 := Lib.hid b2; clear b2)))
        go_ret
        exact ⟨[], fun _ _ hn => absurd HHO.out hn, by rw [HG.out]; rfl, by rw [HG.out]; exact LeftG.refl I HM.out (below_next HB.out B2.out)⟩
      · have CH2 := Lib.hid (show ∀ w1, Mem10 M w1 b ab kb fb lm lr rr GR c P → Calls Tryz.prog 49 #[.pointer (some ⟨b, 0, none⟩), .int .i64 tx, .agg #[.string l.1, .string l.2]] w1 fun e w' => e = .returned (.bool false) ∧ Below w1.heap.size w1 w' from fun w1 m => (CH.out w1 m).mono fun e w' h => by rw [hh] at h; simpa [hown] using h)
        have HG := Lib.hid (show ∀ zs, writeG c P tx l last zs = if (takeG c P tx l last).1 ≠ 0 then ((takeG c P tx l last).1, abortG { P with H := (takeG c P tx l last).2 } tx) else if zs ≠ [] then (81, abortG { P with H := (takeG c P tx l last).2 } tx) else dependG { P with H := (takeG c P tx l last).2 } tx (txP P.L fun n => hasP n.2 l.1 l.2) (true, false) (false, true) from fun zs => by unfold writeG; rw [if_neg (by rw [ha]; simp), if_neg hneg, if_neg (by rw [hh]; exact hown)])
        obtain ⟨sn, hsn⟩ : ∃ s, (getA P.act tx).getD 0 = s := ⟨_, rfl⟩
        obtain ⟨⟨tk1, tk2⟩, htk⟩ : ∃ t, takeG c P tx l last = t := ⟨_, rfl⟩
        have CT := Lib.hid (fun (w1 : World) (m : Mem10 M w1 b ab kb fb lm lr rr GR c P) => show Calls Tryz.prog 50 #[.pointer (some ⟨lm, 0, none⟩), .int .i64 tx, .int .i64 sn, .int .i64 last, .agg #[.string l.1, .string l.2]] w1 fun e w' => e = .returned (.int .i64 tk1) ∧ MG w' lm lr c.locks tk2 ∧ Out (fun k => k = lr) w1 w' from by
          have h1 := wkTake m.lok HL.out.sz tx sn last HX.out
          rw [show takeP c.locks P.H tx sn last l = (tk1, tk2) by rw [← hsn]; exact htk] at h1
          exact h1)
        rw [htk] at HG
        simp only at HG
        have QA := Lib.hid (fun (w1 : World) (m : Mem10 M w1 b ab kb fb lm lr rr GR c P) => show (Instr.lookup 86 (.map (some ab)) (.int .i64 tx) false).run Tryz.prog w1 = .ok (.int .i64 sn) w1 from by rw [← hsn]; exact look_act m.act HX.out)
        have HHO := Lib.hid (show ¬ holderP P.H l = some tx by rw [hh]; exact hown)
        have HTK := Lib.hid htk
        have K69 := Lib.hid (show ∀ w1, Mem10 M w1 b ab kb fb lm lr rr GR c P → w1.cell? ⟨b, 6, none⟩ = some (.map (some ab)) ∧ w1.cell? ⟨b, 9, none⟩ = some (.pointer (some ⟨lm, 0, none⟩)) from fun w1 m => ⟨m.cells.2.2.2.2.2.2.1, m.cells.2.2.2.2.2.2.2.2.2.1⟩)
        clear hown hh ha hsn htk CH
        go_enter Tryz.func16, Tryz.ntmps16
        go_upto_region 1 with fail
        try rw [hW]
        go_upto_region 8 with (first
          | (go_at_call 48; go_loud (refine CR.out.mono ?_; rintro e w1 ⟨rfl, hw⟩; replace hw := hw.symm; subst hw))
          | (go_at_call 49; go_loud (refine (CH2.out _ M1.out).mono ?_; rintro e w2 ⟨rfl, b2⟩; have M2 := Lib.hid (M1.out.below I b2); have B2 := Lib.hid (below_next HB.out b2); replace x0 := keep_below x0 b2; replace x1 := keep_below x1 b2; clear b2)))
        have MD := Lib.hid (M2.out.below I (Below.refl w2.heap.size w2).drew)
        have qA := QA.out _ MD.out
        obtain ⟨c6, c9⟩ := K69.out _ M2.out
        have hS : w2.cell? ⟨b, 6, none⟩ = some (.map (some ab)) ∧ w2.cell? ⟨b, 9, none⟩ = some (.pointer (some ⟨lm, 0, none⟩)) ∧ w2.cell? ⟨w.heap.size, 0, none⟩ = some (.string l.1) ∧ w2.cell? ⟨w.heap.size, 1, none⟩ = some (.string l.2) := ⟨c6, c9, x0, x1⟩
        have SN := Lib.hid (show ∀ w3, Out (fun k => k = lr) w2.drew w3 → w3.cell? ⟨b, 6, none⟩ = some (.map (some ab)) ∧ w3.cell? ⟨b, 9, none⟩ = some (.pointer (some ⟨lm, 0, none⟩)) ∧ w3.cell? ⟨w.heap.size, 0, none⟩ = some (.string l.1) ∧ w3.cell? ⟨w.heap.size, 1, none⟩ = some (.string l.2) from fun w3 o => by
          have n1 : b ≠ lr := HM.out.ne.1.2.2.2.2
          have n2 : w.heap.size ≠ lr := by have := HLT.out.2.2.2.2.2; omega
          exact ⟨o.cell (w := w2.drew) c6 n1, o.cell (w := w2.drew) c9 n1, o.cell (w := w2.drew) x0 n2, o.cell (w := w2.drew) x1 n2⟩)
        go_region_held3 (fun w' => w'.cell? ⟨b, 6, none⟩ = some (.map (some ab)) ∧ w'.cell? ⟨b, 9, none⟩ = some (.pointer (some ⟨lm, 0, none⟩)) ∧ w'.cell? ⟨w.heap.size, 0, none⟩ = some (.string l.1) ∧ w'.cell? ⟨w.heap.size, 1, none⟩ = some (.string l.2)) (first | exact hS | exact S2)
          (first | (go_at_call 50; go_loud (refine (CT.out _ MD.out).mono ?_; rintro e w3 ⟨rfl, l3, o3⟩; have S2 := SN.out _ o3; have M3 := Lib.hid (MD.out.setLok I o3 l3); have O3 := Lib.hid (show Out (fun k => k = lr) w w3 from (Out.of_below B2.out _).drew.then o3); have O3b := Lib.hid (show Out (fun k => k = lr) w2 w3 from (Out.refl _ w2).drew.then o3); clear l3 o3)))
        clear SN S2 hS c6 c9 qA
        have y0 : w3.cell? ⟨w.heap.size, 0, none⟩ = some (.string l.1) := O3b.out.cell x0 (by have := HLT.out.2.2.2.2.2; show w.heap.size ≠ lr; omega)
        have y1 : w3.cell? ⟨w.heap.size, 1, none⟩ = some (.string l.2) := O3b.out.cell x1 (by have := HLT.out.2.2.2.2.2; show w.heap.size ≠ lr; omega)
        have HC3 := Lib.hid (HC.out.setH tk2)
        by_cases h0 : tk1 = 0
        · subst h0
          have CK := Lib.hid (wxKwOf I M3.out HC3.out tx HL.out)
          unfold lkV at CK
          have HG1 := Lib.hid (show ∀ zs, writeG c P tx l last zs = if zs ≠ [] then (81, abortG { P with H := tk2 } tx) else dependG { P with H := tk2 } tx (txP P.L fun n => hasP n.2 l.1 l.2) (true, false) (false, true) from fun zs => by rw [HG.out, if_neg (by simp)])
          have CA := Lib.hid (fun (w1 : World) (m : Mem10 M w1 b ab kb fb lm lr rr GR c { P with H := tk2 }) => wxAbort I m HC3.out HX.out)
          go_wp2_with (first
            | (go_at_call 51; go_loud (refine CK.out.mono ?_; rintro e w4 ⟨v, zs, rfl, o4, k4, b4⟩; have K4 := Lib.hid (show KwIs P tx l.1 l.2 (l.2 ++ ⟨#[0]⟩) zs from k4); have B4 := Lib.hid b4; have M4 := Lib.hid (M3.out.below I b4); replace y0 := keep_below y0 b4; replace y1 := keep_below y1 b4; obtain ⟨A, d, rfl, -, -, -, -⟩ := o4.form; clear o4 k4 b4))
            | (go_at_call 52; go_loud (refine (CA.out _ M4.out).mono ?_; rintro e w5 ⟨rfl, l5⟩; have L5 := Lib.hid (show LeftG M w4 w5 b ab kb fb lm lr rr GR c (abortG { P with H := tk2 } tx) from l5); clear l5)))
          · go_ret
            have hz : zs ≠ [] := by
              have : 0 < zs.length := by assumption
              intro e
              rw [e] at this
              simp at this
            refine ⟨zs, fun _ _ _ _ => K4.out, by rw [HG1.out, if_pos hz]; rfl, ?_⟩
            rw [HG1.out, if_pos hz]
            exact (L5.out.after B4.out).more (w1 := w) (GR := GR) (fun k hk => .inl hk) (O3.out.mono fun _ _ e => .inr (.inr (.inr (.inl e))))
          · have hz : zs = [] := by
              have : ¬ 0 < zs.length := by assumption
              exact List.eq_nil_of_length_eq_zero (by omega)
            subst hz
            have HG2 := Lib.hid (HG1.out [])
            rw [if_neg (by simp)] at HG2
            obtain ⟨os, hos⟩ : ∃ os, (txP P.L fun n => hasP n.2 l.1 l.2) = os := ⟨_, rfl⟩
            rw [hos] at HG2
            have HOW := Lib.hid (show ∀ o ∈ os, (Lit.int .i64 o).wf = true from fun o ho => by
              rw [← hos] at ho
              obtain ⟨n, hn, e⟩ := tx_mem ho
              rw [← e]; exact HW.out.l n hn)
            have HON := Lib.hid (show os.length ≤ 65536 by
              rw [← hos]
              have h1 := tx_len (L := P.L) (f := fun n => hasP n.2 l.1 l.2)
              have h2 := (I.inv HM.out.rds)
              have h3 := h2.1.cap
              have h4 := h2.2.2.2
              omega)
            have MD4 := Lib.hid (M4.out.below I (Below.refl w4.heap.size w4).drew)
            have CR2 := Lib.hid (show Calls Tryz.prog 54 #[.pointer (some ⟨rr, 0, none⟩), .string l.1, .string l.2] w4.drew fun e w' => ∃ v, e = .returned v ∧ SO seN w4.heap.size w' v os.length (numC os) ∧ Below w4.heap.size w4.drew w' from by
              have := I.readers MD4.out.rds l.1 l.2 HL.out.1 HL.out.2
              rw [show (txP ({ P with H := tk2 } : Pg).L fun n => hasP n.2 l.1 l.2) = os from hos] at this
              exact this)
            have CD := Lib.hid (fun (w1 : World) (m : Mem10 M w1 b ab kb fb lm lr rr GR c { P with H := tk2 }) (A : Option Addr) (d : Nat) (hA : SB w1 A os.length (numC os)) (hd : os.length ≤ d) (hm : d ≤ maxLen) => wxDep I m HC3.out HX.out hA rfl hd hm (by have := HON.out; omega) HOW.out (true, false) (false, true))
            obtain ⟨dp, hdp⟩ : ∃ q, dependG { P with H := tk2 } tx os (true, false) (false, true) = q := ⟨_, rfl⟩
            rw [hdp] at CD HG2
            have c10 := M4.out.cells.2.2.2.2.2.2.2.2.2.2
            have hS : w4.cell? ⟨b, 10, none⟩ = some (.pointer (some ⟨rr, 0, none⟩)) ∧ w4.cell? ⟨w.heap.size, 0, none⟩ = some (.string l.1) ∧ w4.cell? ⟨w.heap.size, 1, none⟩ = some (.string l.2) := ⟨c10, y0, y1⟩
            have SN := Lib.hid (show ∀ w5, Below w4.heap.size w4 w5 → w5.cell? ⟨b, 10, none⟩ = some (.pointer (some ⟨rr, 0, none⟩)) ∧ w5.cell? ⟨w.heap.size, 0, none⟩ = some (.string l.1) ∧ w5.cell? ⟨w.heap.size, 1, none⟩ = some (.string l.2) from fun w5 g => ⟨keep_below c10 g, keep_below y0 g, keep_below y1 g⟩)
            have SM := Lib.hid (show ∀ w5 w6, Below w4.heap.size w4 w5 → LeftG M w5 w6 b ab kb fb lm lr rr GR c dp.2 → w6.cell? ⟨b, 10, none⟩ = some (.pointer (some ⟨rr, 0, none⟩)) ∧ w6.cell? ⟨w.heap.size, 0, none⟩ = some (.string l.1) ∧ w6.cell? ⟨w.heap.size, 1, none⟩ = some (.string l.2) from fun w5 w6 g hl => by
              obtain ⟨GR', m, -, o⟩ := hl
              obtain ⟨-, z0, z1⟩ := SN.out w5 g
              have nb : ¬ (w.heap.size = ab ∨ w.heap.size = kb ∨ w.heap.size = fb ∨ w.heap.size = lr ∨ GR w.heap.size) := by
                have h1 := HLT.out
                rintro (e | e | e | e | e)
                · omega
                · omega
                · omega
                · omega
                · have := HGR.out _ e; omega
              exact ⟨m.cells.2.2.2.2.2.2.2.2.2.2, o.cell z0 nb, o.cell z1 nb⟩)
            clear hos hdp CA CK
            go_region_held3 (fun w' => w'.cell? ⟨b, 10, none⟩ = some (.pointer (some ⟨rr, 0, none⟩)) ∧ w'.cell? ⟨w.heap.size, 0, none⟩ = some (.string l.1) ∧ w'.cell? ⟨w.heap.size, 1, none⟩ = some (.string l.2)) (first | exact hS | exact S6 | exact S5)
              (first
                | (go_at_call 54; go_loud (refine CR2.out.mono ?_; rintro e w5 ⟨v5, rfl, o5, b5⟩; have bv : Below w4.heap.size w4 w5 := (Below.refl w4.heap.size w4).drew.trans b5; have S5 := SN.out _ bv; have M5 := Lib.hid (M4.out.below I bv); have B5 := Lib.hid bv; obtain ⟨A5, d5, rfl, sb5, hn5, hm5, ha5⟩ := o5.form; have CD5 := Lib.hid (CD.out _ M5.out A5 d5 (by rw [show seN.s = 1 from rfl, Nat.one_mul] at sb5; exact sb5) hn5 hm5); clear b5 o5 bv sb5 hn5 hm5 ha5))
                | (go_at_call 53; go_loud (refine CD5.out.mono ?_; rintro e w6 ⟨rfl, l6⟩; have L6 := Lib.hid (show LeftG M w5 w6 b ab kb fb lm lr rr GR c dp.2 from l6); have S6 := SM.out _ _ B5.out l6; clear l6)))
            go_wp2
            go_ret
            refine ⟨[], fun _ _ _ _ => K4.out, by rw [HG2.out]; rfl, ?_⟩
            rw [HG2.out]
            exact (L6.out.after (below_next B4.out B5.out)).more (w1 := w) (GR := GR) (fun k hk => .inl hk) (O3.out.mono fun _ _ e => .inr (.inr (.inr (.inl e))))
        · have i1 : (tk1 == 0) = false := by simpa using h0
          have HG1 := Lib.hid (show ∀ zs, writeG c P tx l last zs = (tk1, abortG { P with H := tk2 } tx) from fun zs => by rw [HG.out, if_pos h0])
          have CA := Lib.hid (wxAbort I M3.out HC3.out HX.out)
          have H0 := Lib.hid h0
          clear h0
          go_wp2_with (go_at_call 52; go_loud (refine CA.out.mono ?_; rintro e w4 ⟨rfl, l4⟩; have L4 := Lib.hid (show LeftG M w3 w4 b ab kb fb lm lr rr GR c (abortG { P with H := tk2 } tx) from l4); clear l4))
          go_ret
          refine ⟨[], fun _ _ _ e => absurd (by rw [HTK.out] at e; exact e) H0.out, by rw [HG1.out]; rfl, by rw [HG1.out]; exact L4.out.more (w1 := w) (GR := GR) (fun k hk => .inl hk) (O3.out.mono fun _ _ e => .inr (.inr (.inr (.inl e))))⟩
end
end Go.Proofs.YtknppiebncdjmaaGreat

/- Layer 10: Begin, Abort, Tracked. -/
namespace Go.Proofs.YtknppiebncdjmaaGreat
set_option maxRecDepth 100000
set_option maxRecDepth 100000
open Go.RowKit Go.Maps Go.ChangeMaps Go.MapKept

theorem wp_lenM {κ : Type} [DecidableEq κ] {k : TypeId} (T : KT κ k) {w : World} {ops : Array Oper} {rest : List Oper} {o : Oper} {a : Act} {Q : Exit → Act → World → Prop} {r : Nat} {hs : List (κ × Value)} {t e : TypeId} (hg : o.guard = none) (m : Operand) (hop : o.op = Op.call { callee := Callee.builtin Builtin.len, args := #[m], argTypes := #[t] }) (hm : a.eval m = .map (some r)) (hM : MapM T w r hs) (ht : Tryz.prog.underlying t = some (.map k e))
    (hK : wpList Tryz.prog ops Q rest (a.put o.dst (.int .i64 (hs.length : Nat))) w) : wpList Tryz.prog ops Q (o :: rest) a w := by
  obtain ⟨D, ho, hvw⟩ := hM
  refine wpList_len_own w hg m t hop k e ht _ r hs.length D hm ho ?_
  rw [hvw.size]
  exact hK
def beginG (c : Cp10) (P : Pg) : (Int × Int × Int) × Pg := if c.act ≤ (P.act.length : Int) then ((0, 0, 4), P) else ((P.begun + 1, P.now, 0), { P with begun := P.begun + 1, act := putA P.act (P.begun + 1) P.now })
section
variable {M : MF} {w : World} {b ab kb fb lm lr rr : Nat} {GR : Nat → Prop} {c : Cp10} {P : Pg}
theorem act_len (h : Mem10 M w b ab kb fb lm lr rr GR c P) (ty : TypeId) : (Builtin.len_ #[86] ty #[.map (some ab)]).run Tryz.prog w = .ok (.int .i64 (P.act.length : Nat)) w := by
  have := h.act.len Tryz.underlying86 ty
  rwa [show (actM P.act).length = P.act.length from enc_len _ _] at this
theorem kep_len (h : Mem10 M w b ab kb fb lm lr rr GR c P) (ty : TypeId) : (Builtin.len_ #[87] ty #[.map (some kb)]).run Tryz.prog w = .ok (.int .i64 (P.kep.length : Nat)) w := by
  have := h.kep.len Tryz.underlying87 ty
  rwa [show (kepM P.kep).length = P.kep.length from enc_len _ _] at this
/-- What a call that may write leaves: more widely. -/
def LeftB (M : MF) (w w' : World) (b ab kb fb lm lr rr : Nat) (GR : Nat → Prop) (c : Cp10) (P' : Pg) : Prop := ∃ GR', Mem10 M w' b ab kb fb lm lr rr GR' c P' ∧ (∀ k, GR' k → GR k ∨ w.heap.size ≤ k) ∧ Out (BlG b ab kb fb lr GR) w w'
theorem LeftG.wide {w w' : World} {P' : Pg} (h : LeftG M w w' b ab kb fb lm lr rr GR c P') : LeftB M w w' b ab kb fb lm lr rr GR c P' := by
  obtain ⟨GR', m, g, o⟩ := h
  refine ⟨GR', m, g, o.mono fun k _ e => ?_⟩
  rcases e with e | e | e | e | e
  · exact .inl (by simp [e])
  · exact .inl (by simp [e])
  · exact .inl (by simp [e])
  · exact .inl (by simp [e])
  · exact .inr e
set_option maxHeartbeats 4000000 in
theorem wxBegin (I : Api9 M) (h : Mem10 M w b ab kb fb lm lr rr GR c P) (hc : PgOk c P) :
    Calls Tryz.prog 15 #[.pointer (some ⟨b, 0, none⟩)] w fun e w' => e = .returned (.tuple #[.int .i64 (beginG c P).1.1, .int .i64 (beginG c P).1.2.1, .int .i64 (beginG c P).1.2.2]) ∧ LeftB M w w' b ab kb fb lm lr rr GR c (beginG c P).2 := by
  have CM := Lib.hid (wxMade h hc)
  have qN := fun ty => act_len (h.below I (Below.refl w.heap.size w).drew) ty
  obtain ⟨c0, -, -, -, c4, c5, c6, -, -, -, -⟩ := h.cells
  have HM := Lib.hid h
  unfold beginG
  have i0 : (P.act.length : Int) ≤ 64 := by have := hc.na; have := hc.ca; omega
  have HBG := Lib.hid hc.bg
  have HNA := Lib.hid hc.na
  have i2 : 0 ≤ P.begun ∧ P.begun ≤ 1000000000000000000 := hc.bg
  obtain ⟨i2, i3⟩ := i2
  obtain ⟨bg, hbg⟩ : ∃ x, P.begun = x := ⟨_, rfl⟩
  rw [hbg] at c5 i2 i3
  have HBE := Lib.hid hbg
  clear h hc
  by_cases hf : c.act ≤ (P.act.length : Int)
  · rw [if_pos hf]
    have hf2 : (P.act.length : Int) ≥ c.act := hf
    go_enter Tryz.func15, Tryz.ntmps15
    go_upto_region 3 with (go_at_call 40; go_loud (refine CM.out.mono ?_; rintro e w1 ⟨rfl, hw⟩; replace hw := hw.symm; subst hw))
    go_region
    go_wp2
    refine bodyPost_ret (v := .tuple #[.int .i64 0, .int .i64 0, .int .i64 4]) (by simp [results, Tryz.results15, go_sem]) rfl ⟨rfl, (LeftG.wide ⟨GR, HM.out.below I (Below.refl _ _).drew, fun _ h => .inl h, Out.of_below (Below.refl _ _).drew _⟩)⟩
  · rw [if_neg hf]
    have hf2 : ¬ (P.act.length : Int) ≥ c.act := hf
    have HFF := Lib.hid hf
    rw [hbg]
    obtain ⟨V, hV⟩ : ∃ V, (w.setCell ⟨b, 5, none⟩ (.int .i64 (bg + 1))).drew = V := ⟨_, rfl⟩
    have fz : w.frozen? ⟨b, 5, none⟩ = false := frozen_of_row _ _ _ _ _ HM.out.blk
    have mv : Mem10 M V b ab kb fb lm lr rr GR c { P with begun := bg + 1 } := by rw [← hV]; exact (HM.out.putBegun I (bg + 1)).below I (Below.refl _ _).drew
    have OV := Lib.hid (show Out (BlG b ab kb fb lr GR) w V by rw [← hV]; exact (Out.setCell (F := BlG b ab kb fb lr GR) (Out.refl _ w) (.inl (.inl (by simp))) _).drew)
    obtain ⟨-, -, -, -, d4, d5, d6, -, -, -, -⟩ := mv.cells
    have MV := Lib.hid mv
    have MVD := Lib.hid (mv.below I (Below.refl V.heap.size V).drew)
    have HV := Lib.hid hV
    have HK := Lib.hid (show KI.ok (bg + 1) by show (Lit.int .i64 (bg + 1)).wf = true; simp [Lit.wf, IntKind.min, IntKind.max, IntKind.bits, IntKind.signed]; omega)
    have HLN := Lib.hid (show (actM P.act).length < 4000000 by rw [show (actM P.act).length = P.act.length from enc_len _ _]; omega)
    clear mv hV hf HBE hbg
    go_enter Tryz.func15, Tryz.ntmps15
    go_upto_region 3 with (go_at_call 40; go_loud (refine CM.out.mono ?_; rintro e w1 ⟨rfl, hw⟩; replace hw := hw.symm; subst hw))
    go_region
    go_upto_region 6 with fail
    rw [HV.out]
    clear qN c0 c4 c5 c6 fz
    go_still_tail 12, (by kernel_rfl)
    go_upto_region 7 with (at_mapUpdate; go_loud (refine wp_putM KI (by rfl) (.tmp 31) (.tmp 35) (.tmp 39) (by rfl) (by rfl) MVD.out.act Tryz.underlying86 (bg + 1) HK.out (by rfl) HLN.out ?_; intro w5 m5 g5 s5; have M5 := Lib.hid m5; have G5 := Lib.hid g5; clear m5 g5 s5))
    have o5 : Out (fun k => k = ab) V w5 := (Out.refl _ V).drew.grown G5.out fun k e => .inl (Option.some.inj e).symm
    have m5 := MV.out.setAct I o5 (A' := putA P.act (bg + 1) P.now) (by have := M5.out; unfold actM at this ⊢; rw [← enc_put]; exact this)
    obtain ⟨-, -, -, -, d4, d5, -, -, -, -, -⟩ := m5.cells
    have M6 := Lib.hid m5
    have O6 := Lib.hid (show Out (BlG b ab kb fb lr GR) w w5 from OV.out.then (o5.mono fun k _ e => .inl (by simp [show k = ab from e])))
    clear o5 m5
    go_quiet (fail)
    go_wp2
    refine bodyPost_ret (v := .tuple #[.int .i64 (bg + 1), .int .i64 P.now, .int .i64 0]) (by simp [results, Tryz.results15, go_sem]) rfl ⟨rfl, GR, M6.out.below I (below_drewN8 _ _), fun _ h => .inl h, O6.out.then (Out.of_below (below_drewN8 _ _) _)⟩
set_option maxHeartbeats 4000000 in
theorem wxAbortC (I : Api9 M) (h : Mem10 M w b ab kb fb lm lr rr GR c P) (hc : PgOk c P) {tx : Int} (hx : (Lit.int .i64 tx).wf = true) :
    Calls Tryz.prog 17 #[.pointer (some ⟨b, 0, none⟩), .int .i64 tx] w fun e w' => e = .returned (.int .i64 (refG P tx)) ∧ LeftG M w w' b ab kb fb lm lr rr GR c (if isAct P tx = true then abortG P tx else P) := by
  have CR := Lib.hid (wxRef h hc hx)
  have CA := Lib.hid (wxAbort I h hc hx)
  have HM := Lib.hid h
  clear h hc hx
  unfold refG at *
  cases ha : isAct P tx
  · rw [ha] at CR
    go_enter Tryz.func17, Tryz.ntmps17
    go_wp2_with (go_at_call 48; go_loud (refine CR.out.mono ?_; rintro e w1 ⟨rfl, hw⟩; replace hw := hw.symm; subst hw))
    go_ret
    exact ⟨rfl, GR, HM.out, fun _ h => .inl h, Out.refl _ _⟩
  · rw [ha] at CR
    go_enter Tryz.func17, Tryz.ntmps17
    go_wp2_with (first
      | (go_at_call 48; go_loud (refine CR.out.mono ?_; rintro e w1 ⟨rfl, hw⟩; replace hw := hw.symm; subst hw))
      | (go_at_call 52; go_loud (refine CA.out.mono ?_; rintro e w2 ⟨rfl, l2⟩; have L2 := Lib.hid (show LeftG M w w2 b ab kb fb lm lr rr GR c (abortG P tx) from l2); clear l2)))
    go_ret
    exact ⟨rfl, L2.out⟩
end
end Go.Proofs.YtknppiebncdjmaaGreat
