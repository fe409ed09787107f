/- Layer 11: the reference's at, Ordered and Serial; orders, plainly. -/
import Derived.Test.YtbmgeobmmpaghaaGreatDoorKAE
import Derived.Test.YtbmgeobmmpaghaaGreatDoorMem
import Derived.Lib.QuietBelow
import Derived.Deep.MidRow
import Derived.Test.YtbmgeobmmpaghaaGreatDoorSeOpn
set_option linter.unusedVariables false
namespace Go.Proofs.YtbmgeobmmpaghaaGreatDoor
set_option maxRecDepth 100000
set_option maxRecDepth 100000
open Go.RowKit

/-- A list is an order of the commits. -/
def OrdP (cs l : List Int) : Prop := l.length = cs.length ∧ l.Nodup ∧ ∀ x ∈ l, x ∈ cs
/-- Each dependency leads from one that stands ahead to one that stands behind. -/
def serB (l : List Int) (g : List Dp) : Bool := g.all fun d => !decide (plcP l d.to < plcP l d.fr)
theorem plcP_nodup {l : List Int} : l.Nodup ↔ ∀ (i : Nat) x, l[i]? = some x → plcP l x = (i : Int) := by
  constructor
  · exact fun h i x hx => plcP_of h hx
  · intro h
    rw [List.nodup_iff_pairwise_ne, List.pairwise_iff_getElem]
    intro i j hi hj hij e
    have h1 := h i l[i] (List.getElem?_eq_getElem hi)
    have h2 := h j l[j] (List.getElem?_eq_getElem hj)
    rw [e] at h1
    omega
theorem sub_back : ∀ (l m : List Int), l.Nodup → (∀ x ∈ l, x ∈ m) → m.length ≤ l.length → ∀ x ∈ m, x ∈ l
  | [], m, _, _, hl => by
    have : m = [] := List.eq_nil_of_length_eq_zero (by simpa using hl)
    rw [this]; simp
  | a :: l, m, hd, hs, hl => fun x hx => by
    obtain ⟨h1, h2⟩ := List.nodup_cons.1 hd
    have ham := hs a (List.mem_cons_self ..)
    by_cases e : x = a
    · rw [e]; exact List.mem_cons_self ..
    · refine List.mem_cons_of_mem _ (sub_back l (m.erase a) h2 (fun y hy => ?_) ?_ x ?_)
      · have hne : y ≠ a := fun k => h1 (k ▸ hy)
        exact (List.mem_erase_of_ne hne).2 (hs y (List.mem_cons_of_mem _ hy))
      · rw [List.length_erase_of_mem ham]
        rw [List.length_cons] at hl; omega
      · exact (List.mem_erase_of_ne e).2 hx
section
variable {w : World} {A B : Option Addr} {n c m d : Nat} {cs : List Int} {ac : List Ac}
set_option maxHeartbeats 8000000 in
theorem wrAt {l : List Int} (hs : SB w A n (numC l)) (hl : l.length = n) (hn : n ≤ 4096) (t : Int) :
    Calls Tryz.prog 40 #[.slice A n c, .int .i64 t] w fun e w' => e = .returned (.int .i64 (plcP l t)) ∧ w' = w := by
  have HS := Lib.hid hs
  have HL := Lib.hid hl
  have HN := Lib.hid hn
  clear hs hl hn
  go_enter Tryz.func40, Tryz.ntmps40
  go_upto_region 2 with fail
  go_loopw [5] (fun i wr => ∃ j : Nat, i = .int .i64 (j : Nat) ∧ j ≤ n ∧ (∀ x ∈ l.take j, x ≠ t) ∧ wr = w) (fun i _ => n - (intOf i).toNat)
  case atStart => exact ⟨0, rfl, Nat.zero_le _, by simp, rfl⟩
  case round =>
    rename World => wr
    obtain ⟨j, rfl, hj, ha, rfl⟩ := hrel
    by_cases hlt : j < n
    · obtain ⟨x, hx⟩ : ∃ x, l[j]? = some x := ⟨_, List.getElem?_eq_getElem (by rw [HL.out]; exact hlt)⟩
      obtain ⟨g, o, rfl, c0⟩ := HS.out.num hx
      have i1 : (j : Int) < (n : Int) := by omega
      have l1 : (j : Int) ≤ 4096 := by have := HN.out; omega
      have l2 : (0 : Int) ≤ (j : Int) := by omega
      have HA := Lib.hid ha
      have HX := Lib.hid hx
      have HLT := Lib.hid hlt
      clear hx ha hj hlt
      by_cases hp : x = t
      · subst hp
        have HT := Lib.hid (show plcP l x = (j : Int) from plcP_first HX.out HA.out)
        go_wp2
        go_ret
        exact ⟨by rw [HT.out]; rfl, rfl⟩
      · have hp' : (x == t) = false := by simpa using hp
        go_wp2
        go_roundw
        case rel => exact ⟨j + 1, by go_num, HLT.out, fun y hy => by
          rw [List.take_add_one, HX.out] at hy
          rcases List.mem_append.1 hy with h1 | h1
          · exact HA.out y h1
          · rw [List.mem_singleton.1 h1]; exact hp, by first | rfl | trivial⟩
        case measure => have := HLT.out; simp [intOf]; omega
    · obtain rfl : j = n := by omega
      have i1 : ¬ (j : Int) < (j : Int) := by omega
      have HT := Lib.hid (show plcP l t = -1 by
        rw [← HL.out, List.take_length] at ha
        unfold plcP
        rw [if_neg (fun hm => ha t hm rfl)])
      clear ha hj hlt
      go_wp2
      go_ret
      exact ⟨by rw [HT.out]; rfl, rfl⟩
set_option maxHeartbeats 32000000 in
theorem wrSerial (h : Hist w A n c B m d cs ac) (hR : Right cs ac) {oA : Option Addr} {on oc : Nat} {l : List Int} (hs : SB w oA on (numC l)) (hl : l.length = on) (hn : on ≤ 4096) :
    Calls Tryz.prog 24 #[histV A n c B m d, .slice oA on oc] w fun e w' => e = .returned (.bool (serB l (graphP cs ac))) ∧ Below w.heap.size w w' := by
  obtain ⟨W0, hB⟩ := h.box
  have HB := Lib.hid hB
  have HW := Lib.hid hB.eq
  have x0 := hB.x0
  have x1 := hB.x1
  have CG := Lib.hid (wrGraph hB.h (by rw [← h.cl]; exact hR.lc) (by rw [← h.al]; exact hR.la))
  have HGL := Lib.hid (show (graphP cs ac).length ≤ 8192 by have := hR.edges_len; unfold edgesP at this; rwa [List.length_map] at this)
  have CA := Lib.hid (fun (W : World) (hW : Below w.heap.size w W) (t : Int) => wrAt (c := oc) (hs.gw hW) hl hn t)
  obtain ⟨GR, hGR⟩ : ∃ g, graphP cs ac = g := ⟨_, rfl⟩
  rw [hGR] at CG HGL ⊢
  obtain ⟨r, hr⟩ : ∃ r, serB l GR = r := ⟨_, rfl⟩
  have HRS := Lib.hid hr
  rw [hr]
  unfold histV at CG ⊢
  clear h hB hR hs hl hn hGR hr
  go_enter Tryz.func24, Tryz.ntmps24
  go_upto_region 1 with fail
  rw [HW.out]
  go_upto_region 2 with (go_at_call 13; go_loud (refine CG.out.mono ?_; rintro e w1 ⟨v1, rfl, ⟨gA, gc, rfl, gs, -, -⟩, b1⟩; have GS := Lib.hid gs; have B1 := Lib.hid (below_next HB.out.below b1); clear gs b1))
  clear x0 x1
  obtain ⟨q, hq⟩ : ∃ q, GR.length = q := ⟨_, rfl⟩
  have HQ := Lib.hid hq
  rw [hq] at HGL ⊢
  clear hq
  go_upto_region 3 with fail
  go_loopw [6] (fun i wr => ∃ j : Nat, i = .int .i64 (j : Nat) ∧ j ≤ q ∧ serB l (GR.take j) = true ∧ Below w1.heap.size w1 wr) (fun i _ => q - (intOf i).toNat)
  case atStart => exact ⟨0, rfl, Nat.zero_le _, by simp [serB], Below.refl _ _⟩
  case round =>
    rename World => wr
    obtain ⟨j, rfl, hj, ha, hb⟩ := hrel
    by_cases hlt : j < q
    · obtain ⟨y, hy⟩ : ∃ y, GR[j]? = some y := ⟨_, List.getElem?_eq_getElem (by rw [HQ.out]; exact hlt)⟩
      obtain ⟨g, o, rfl, c0, c1, c2⟩ := DL.at_ (GS.out.gw hb) hy
      have i1 : (j : Int) < (q : Int) := by omega
      have l1 : (j : Int) ≤ 8192 := by have := HGL.out; omega
      have HT := Lib.hid (show serB l (GR.take (j + 1)) = !decide (plcP l y.to < plcP l y.fr) by
        unfold serB at ha ⊢
        rw [List.take_add_one, hy, Option.toList_some, List.all_append, ha]; simp)
      have HF := Lib.hid (show decide (plcP l y.to < plcP l y.fr) = true → r = false from fun k => by
        rw [← HRS.out]
        unfold serB
        rw [List.all_eq_false]
        exact ⟨y, List.mem_of_getElem? hy, by simpa using k⟩)
      have HLT := Lib.hid hlt
      have HBL := Lib.hid (below_next B1.out hb)
      have HB3 := Lib.hid hb
      obtain ⟨yf, yt, yk⟩ := y
      dsimp only at *
      have C1 := Lib.hid (fun (nq : Nat) (t : Int) => CA.out (wr.drewN nq) (below_next HBL.out (below_drewN11 wr nq)) t)
      clear hy ha hj hlt hb c2
      by_cases hp : plcP l yt < plcP l yf
      · have hpd : decide (plcP l yt < plcP l yf) = true := by simpa using hp
        have HRF := Lib.hid (HF.out hpd)
        clear hp
        go_upto_region 5 with fail
        go_quiet ((go_at_call 40; exact Calls.quiet_of_same (C1.out _ _)))
        go_wp2
        go_ret
        exact ⟨by rw [HRF.out]; rfl, below_next HBL.out (below_drewN11 _ _)⟩
      · have hpd : decide (plcP l yt < plcP l yf) = false := by simpa using hp
        have HT2 := Lib.hid (show serB l (GR.take (j + 1)) = true by rw [HT.out, hpd]; rfl)
        clear hp
        go_upto_region 5 with fail
        go_quiet ((go_at_call 40; exact Calls.quiet_of_same (C1.out _ _)))
        go_wp2
        go_roundw
        case rel => exact ⟨j + 1, by go_num, HLT.out, HT2.out, below_next HB3.out (below_drewN11 _ _)⟩
        case measure => have := HLT.out; simp [intOf]; omega
    · obtain rfl : j = q := by omega
      have i1 : ¬ (j : Int) < (j : Int) := by omega
      have HT := Lib.hid (show r = true by rw [← HRS.out, ← ha, ← HQ.out, List.take_length])
      have HBL := Lib.hid (below_next B1.out hb)
      clear ha hj hlt hb
      go_wp2
      go_ret
      exact ⟨by rw [HT.out]; rfl, HBL.out⟩
end
end Go.Proofs.YtbmgeobmmpaghaaGreatDoor

namespace Go.Proofs.YtbmgeobmmpaghaaGreatDoor
set_option maxRecDepth 100000
set_option maxRecDepth 100000
open Go.RowKit Go.Maps Go.ChangeMaps Go.MapKept

/-- What the program takes for an order. -/
def ordQ (cs l : List Int) : Bool := decide l.Nodup && sameP l cs
theorem ordQ_is {cs l : List Int} (hd : cs.Nodup) : ordQ cs l = true ↔ OrdP cs l := by
  unfold ordQ sameP
  rw [Bool.and_eq_true, Bool.and_eq_true, decide_eq_true_eq, decide_eq_true_eq, List.all_eq_true]
  constructor
  · rintro ⟨h1, h2, h3⟩
    have h4 := (plM_len l l.length (Nat.le_refl _)).2 (by rw [List.take_length]; exact h1)
    have h5 : l.length = cs.length := by omega
    exact ⟨h5, h1, sub_back cs l hd (fun x hx => by simpa using h2 x hx) (by omega)⟩
  · rintro ⟨h1, h2, h3⟩
    have h4 := (plM_len l l.length (Nat.le_refl _)).2 (by rw [List.take_length]; exact h2)
    exact ⟨h2, fun x hx => by simpa using sub_back l cs h2 h3 (by omega) x hx, by omega⟩
section
variable {w : World} {A B : Option Addr} {n c m d : Nat} {cs : List Int} {ac : List Ac}
set_option maxHeartbeats 32000000 in
theorem wsSerialOk (h : Hist w A n c B m d cs ac) (hR : Right cs ac) {oA : Option Addr} {on oc : Nat} {l : List Int} (hs : SB w oA on (numC l)) (hl : l.length = on) (hw : ∀ x ∈ l, wfI x) (hon : on < 4611686018427387904) :
    Calls Tryz.prog 22 #[histV A n c B m d, .slice oA on oc] w fun e w' => e = .returned (if ordQ cs l = true then .tuple #[.bool (serB l (graphP cs ac)), .int .i64 0] else .tuple #[.bool false, .int .i64 1]) ∧ Below w.heap.size w w' := by
  obtain ⟨W0, hB⟩ := h.box
  have HB := Lib.hid hB
  have HW := Lib.hid hB.eq
  have x0 := hB.x0
  have x1 := hB.x1
  have hn : n ≤ 4096 := by rw [← h.cl]; exact hR.lc
  have CC := Lib.hid (wsCheck hB.h)
  rw [errH_ok hR] at CC
  have CP := Lib.hid (fun W (hW : Below W0.heap.size W0 W) => wsPlaces (c := oc) ((hs.gw hB.below).gw hW) hl hw hon)
  have CD := Lib.hid (fun W (hW : Below W0.heap.size W0 W) => wsDeps (hB.h.gw hW) hR)
  have HGL := Lib.hid (show (graphP cs ac).length ≤ 8192 by have := hR.edges_len; unfold edgesP at this; rwa [List.length_map] at this)
  have HSM := Lib.hid (fun (W : World) (hW : Below W0.heap.size W0 W) (r : Nat) (hM : MapM KN W r (plM l l.length)) => wsSame (c := c) hM (hB.h.gw hW).cb hB.h.cl hB.h.cw hn (by rw [hl]; exact hon))
  have HL := Lib.hid hl
  have HGM := Lib.hid (fun (e : Dp) (he : e ∈ graphP cs ac) => (⟨(hR.graph_mem he).1, (hR.graph_mem he).2.1, h.cw _ (hR.graph_mem he).1, h.cw _ (hR.graph_mem he).2.1⟩ : e.fr ∈ cs ∧ e.to ∈ cs ∧ wfI e.fr ∧ wfI e.to))
  obtain ⟨r, hr⟩ : ∃ r, (if ordQ cs l = true then Value.tuple #[.bool (serB l (graphP cs ac)), .int .i64 0] else .tuple #[.bool false, .int .i64 1]) = r := ⟨_, rfl⟩
  have HRR := Lib.hid hr
  rw [hr]
  unfold histV at CC CD ⊢
  clear h hB hR hs hl hw hon hn hr
  by_cases hnd : l.Nodup
  · rw [show decide l.Nodup = true by simpa using hnd] at CP
    cases hsm : sameP l cs
    · rw [hsm] at HSM
      have HT := Lib.hid (show r = .tuple #[.bool false, .int .i64 1] by rw [← HRR.out, if_neg (by unfold ordQ; rw [hsm]; simp)])
      clear hnd hsm
      go_enter Tryz.func22, Tryz.ntmps22
      go_upto_region 1 with fail
      rw [HW.out]
      go_upto_region 5 with (first
        | (go_at_call 30; go_loud (refine CC.out.mono ?_; rintro e w1 ⟨rfl, b1⟩; have B1 := Lib.hid b1; have y0 := keep_below x0 b1; have y1 := keep_below x1 b1; have C1 := Lib.hid (CP.out w1 b1); clear b1))
        | (go_at_call 50; go_loud (refine C1.out.mono ?_; rintro e w2 ⟨r2, rfl, m2, g2, b2⟩; have M2 := Lib.hid m2; have B2 := Lib.hid (below_next B1.out b2); have z0 := keep_below y0 b2; have z1 := keep_below y1 b2; clear b2 m2 g2)))
      have M2x := Lib.hid (show MapM KN w2 r2 (plM l l.length) by rw [HL.out]; exact M2.out)
      go_wp2_with (go_at_call 51; go_loud (refine (HSM.out _ B2.out _ M2x.out).mono ?_; rintro e w3 ⟨rfl, hw3⟩; replace hw3 := hw3.symm; subst hw3))
      go_ret2
      exact ⟨by rw [HT.out]; rfl, below_next HB.out.below B2.out⟩
    · rw [hsm] at HSM
      have HT := Lib.hid (show r = .tuple #[.bool (serB l (graphP cs ac)), .int .i64 0] by rw [← HRR.out, if_pos (by unfold ordQ; rw [hsm]; simpa using hnd)])
      have HPL := Lib.hid (fun x => plM_pos hnd x)
      have HIN := Lib.hid (show ∀ x ∈ cs, x ∈ l from fun x hx => by unfold sameP at hsm; rw [Bool.and_eq_true, List.all_eq_true] at hsm; simpa using hsm.1 x hx)
      obtain ⟨GR, hGR⟩ : ∃ g, graphP cs ac = g := ⟨_, rfl⟩
      rw [hGR] at CD HGL HGM HT
      clear hnd hsm hGR
      go_enter Tryz.func22, Tryz.ntmps22
      go_upto_region 1 with fail
      rw [HW.out]
      go_upto_region 5 with (first
        | (go_at_call 30; go_loud (refine CC.out.mono ?_; rintro e w1 ⟨rfl, b1⟩; have B1 := Lib.hid b1; have y0 := keep_below x0 b1; have y1 := keep_below x1 b1; have C1 := Lib.hid (CP.out w1 b1); clear b1))
        | (go_at_call 50; go_loud (refine C1.out.mono ?_; rintro e w2 ⟨r2, rfl, m2, g2, b2⟩; have M2 := Lib.hid m2; have B2 := Lib.hid (below_next B1.out b2); have z0 := keep_below y0 b2; have z1 := keep_below y1 b2; clear b2 m2 g2)))
      have M2x := Lib.hid (show MapM KN w2 r2 (plM l l.length) by rw [HL.out]; exact M2.out)
      go_upto_region 7 with (go_at_call 51; go_loud (refine (HSM.out _ B2.out _ M2x.out).mono ?_; rintro e w3 ⟨rfl, hw3⟩; replace hw3 := hw3.symm; subst hw3))
      clear x0 x1 y0 y1
      have CDX := Lib.hid (CD.out w2 B2.out)
      go_upto_region 8 with (go_at_call 32; go_loud (refine CDX.out.mono ?_; rintro e w4 ⟨v4, rfl, s4, b4⟩; have hf4 := s4.form; obtain ⟨dA, dc, rfl, hsb4, -⟩ := hf4; have DS := Lib.hid (show SB w4 dA (3 * GR.length) (cellsE dpC GR) from hsb4); have B4 := Lib.hid (below_next B2.out b4); have M4 := Lib.hid (M2x.out.block (b4.block _ M2x.out.lt)); clear s4 b4 hsb4))
      obtain ⟨q, hq⟩ : ∃ q, GR.length = q := ⟨_, rfl⟩
      have HQ := Lib.hid hq
      rw [hq] at HGL ⊢
      clear hq z0 z1
      go_loopw [33] (fun i wr => ∃ j : Nat, i = .int .i64 (j : Nat) ∧ j ≤ q ∧ serB l (GR.take j) = true ∧ Below w4.heap.size w4 wr) (fun i _ => q - (intOf i).toNat)
      case atStart => exact ⟨0, rfl, Nat.zero_le _, by simp [serB], Below.refl _ _⟩
      case round =>
        rename World => wr
        obtain ⟨j, rfl, hj, ha, hb⟩ := hrel
        by_cases hlt : j < q
        · obtain ⟨y, hy⟩ : ∃ y, GR[j]? = some y := ⟨_, List.getElem?_eq_getElem (by rw [HQ.out]; exact hlt)⟩
          obtain ⟨g, o, rfl, c0, c1, c2⟩ := DL.at_ (DS.out.gw hb) hy
          obtain ⟨m1, m2', m3, m4⟩ := HGM.out y (List.mem_of_getElem? hy)
          have e1 : posP l y.fr = plcP l y.fr := by unfold posP plcP; rw [if_pos (HIN.out _ m1), if_pos (HIN.out _ m1)]
          have e2 : posP l y.to = plcP l y.to := by unfold posP plcP; rw [if_pos (HIN.out _ m2'), if_pos (HIN.out _ m2')]
          obtain ⟨X, hX⟩ : ∃ X, wr.alloc (.cells #[.int .i64 y.fr, .int .i64 y.to, .int .i64 y.kd] 37) = X := ⟨_, rfl⟩
          have bX : Below wr.heap.size wr X := hX ▸ alloc_below11 wr _
          have qX : X.heap[wr.heap.size]? = some (.cells #[.int .i64 y.fr, .int .i64 y.to, .int .i64 y.kd] 37 (0, 0)) := hX ▸ heap_alloc_new wr _
          have d0 : X.cell? ⟨wr.heap.size, 0, none⟩ = some (.int .i64 y.fr) := cell_of_row _ _ 0 _ _ _ qX
          have d1 : X.cell? ⟨wr.heap.size, 1, none⟩ = some (.int .i64 y.to) := cell_of_row _ _ 1 _ _ _ qX
          have mX : MapM KN X r2 (plM l l.length) := (M4.out.block (hb.block _ M4.out.lt)).block (bX.block _ (Nat.lt_of_lt_of_le M4.out.lt hb.size))
          have k1 := mX.look mapII_und (zeroI X) (x := y.fr) m3
          have k2 := mX.look mapII_und (zeroI X) (x := y.to) m4
          rw [HPL.out, e1] at k1
          rw [HPL.out, e2] at k2
          have HTK := Lib.hid (show serB l (GR.take (j + 1)) = !decide (plcP l y.to < plcP l y.fr) by
            unfold serB at ha ⊢
            rw [List.take_add_one, hy, Option.toList_some, List.all_append, ha]; simp)
          have HF := Lib.hid (show decide (plcP l y.to < plcP l y.fr) = true → serB l GR = false from fun k => by
            unfold serB
            rw [List.all_eq_false]
            exact ⟨y, List.mem_of_getElem? hy, by simpa using k⟩)
          obtain ⟨p1, hp1⟩ : ∃ p, plcP l y.fr = p := ⟨_, rfl⟩
          obtain ⟨p2, hp2⟩ : ∃ p, plcP l y.to = p := ⟨_, rfl⟩
          rw [hp1] at k1 HTK HF
          rw [hp2] at k2 HTK HF
          obtain ⟨yf, yt, yk⟩ := y
          have k1 : (Instr.lookup mapII (.map (some r2)) (.int .i64 yf) false).run Tryz.prog X = .ok (.int .i64 p1) X := k1
          have k2 : (Instr.lookup mapII (.map (some r2)) (.int .i64 yt) false).run Tryz.prog X = .ok (.int .i64 p2) X := k2
          dsimp only at *
          have i1 : (j : Int) < (q : Int) := by omega
          have l1 : (j : Int) ≤ 8192 := by have := HGL.out; omega
          have HX := Lib.hid hX
          have HLT := Lib.hid hlt
          have HBX := Lib.hid (hb.trans (bX.mono hb.size))
          clear hy ha hj hlt hb hp1 hp2 e1 e2 m1 m2' m3 m4 hX bX qX mX
          by_cases hp : p2 < p1
          · have HRF := Lib.hid (HF.out (by simpa using hp))
            go_upto_region 10 with fail
            rw [HX.out]
            clear c0 c1 c2
            go_wp2
            go_ret2
            exact ⟨by rw [HT.out, HRF.out]; rfl, below_next HB.out.below (B4.out.trans (HBX.out.mono B4.out.size))⟩
          · have HT2 := Lib.hid (show serB l (GR.take (j + 1)) = true by rw [HTK.out]; simpa using hp)
            go_upto_region 10 with fail
            rw [HX.out]
            clear c0 c1 c2
            go_wp2
            go_roundw
            case rel => exact ⟨j + 1, by go_num, HLT.out, HT2.out, HBX.out⟩
            case measure => have := HLT.out; simp [intOf]; omega
        · obtain rfl : j = q := by omega
          have i1 : ¬ (j : Int) < (j : Int) := by omega
          have HT2 := Lib.hid (show serB l GR = true by rw [← ha, ← HQ.out, List.take_length])
          have HBL := Lib.hid hb
          clear ha hj hlt hb
          go_wp2
          go_ret2
          exact ⟨by rw [HT.out, HT2.out]; rfl, below_next HB.out.below (B4.out.trans (HBL.out.mono B4.out.size))⟩
  · rw [show decide l.Nodup = false by simpa using hnd] at CP
    have HT := Lib.hid (show r = .tuple #[.bool false, .int .i64 1] by rw [← HRR.out, if_neg (by unfold ordQ; simp [hnd])])
    clear hnd
    go_enter Tryz.func22, Tryz.ntmps22
    go_upto_region 1 with fail
    rw [HW.out]
    go_upto_region 5 with (first
      | (go_at_call 30; go_loud (refine CC.out.mono ?_; rintro e w1 ⟨rfl, b1⟩; have B1 := Lib.hid b1; have y0 := keep_below x0 b1; have y1 := keep_below x1 b1; have C1 := Lib.hid (CP.out w1 b1); clear b1))
      | (go_at_call 50; go_loud (refine C1.out.mono ?_; rintro e w2 ⟨r2, rfl, m2, g2, b2⟩; have M2 := Lib.hid m2; have B2 := Lib.hid (below_next B1.out b2); have z0 := keep_below y0 b2; have z1 := keep_below y1 b2; clear b2 m2 g2)))
    go_wp2
    go_ret2
    exact ⟨by rw [HT.out]; rfl, below_next HB.out.below B2.out⟩
end
end Go.Proofs.YtbmgeobmmpaghaaGreatDoor

namespace Go.Proofs.YtbmgeobmmpaghaaGreatDoor
open Go.RowKit Go.Sort

structure HidS (p : Prop) : Prop where
  out : p
theorem wp_region_quietH {P : Program} {id : Nat} {Q : Exit → Act → World → Prop} {a : Act} {w : World} {l : List Oper} (hm : P.follows .mixedOrders = true) (hB : Region.lexB .any l.toArray = true)
    (h : HidS (wpQuiet P l.toArray (fun w' => ∃ p : Regrown, w' = grow (redrawn w p.d) p.os) (fun a' => ∀ w', (∃ p : Regrown, w' = grow (redrawn w p.d) p.os) → Q .normal a' w') l a)) : (Code.region id l.toArray true).wp P Q a w := wp_region_quiet_below hm hB h.out
section
variable {P : Program} {ops : Array Oper} {C : World → Prop} {Q : Act → Prop} {a : Act} {o : Oper} {rest : List Oper}
theorem wpQuiet_stepH (h : ∀ K : Act → Prop, (∀ a, HidS (wpQuiet P ops C Q rest a) → K a) → if Region.wanted o (yielded ops a.tmps) then o.quiet P a C K else K (a.put o.dst undef)) : HidS (wpQuiet P ops C Q (o :: rest) a) := ⟨h _ (fun _ h => h.out)⟩
theorem wpQuiet_nilH (h : Q a) : HidS (wpQuiet P ops C Q [] a) := ⟨h⟩
theorem wpQuiet_loadH (hw : Region.wanted o (yielded ops a.tmps) = true) (ty : TypeId) (x : Operand) (ho : o.op = .load ty x)
    (b off : Nat) (hx : a.eval x = .pointer (some ⟨b, off, none⟩)) (cs : List Value) (d : TypeDesc) (hc : ∀ w, C w → w.rangeAt b off cs) (hu : P.underlying ty = some d) (hd : d.isRow = true) (hi : (P.info? ty).map (·.size) = some cs.length)
    (h : HidS (wpQuiet P ops C Q rest (a.put o.dst (.agg cs.toArray)))) : HidS (wpQuiet P ops C Q (o :: rest) a) := by
  refine ⟨?_⟩
  rw [wpQuiet, if_pos hw]
  refine ⟨_, fun w hw' => ?_, h.out⟩
  unfold Oper.quietAt execOp
  simp only [ho, hx, Instr.loadAt, Instr.sureAddr, Sem.run_bind, Sem.run_pure, Result.andThen_ok, run_loadVar_mid w b off ty cs d (hc w hw') hu hd hi]
  exact ⟨rfl, rfl⟩
end
theorem range_regrownH {w : World} {b o : Nat} {cs : List Value} (h : w.rangeAt b o cs) (w' : World) (hw : ∃ p : Regrown, w' = grow (redrawn w p.d) p.os) : w'.rangeAt b o cs := by
  obtain ⟨p, rfl⟩ := hw
  exact fun i v hv => cell_regrown (h i v hv) _ _
end Go.Proofs.YtbmgeobmmpaghaaGreatDoor

namespace Go.Proofs.YtbmgeobmmpaghaaGreatDoor
set_option maxRecDepth 100000
open Go.RowKit

open Classical in
noncomputable def ordB (cs l : List Int) : Bool := decide (OrdP cs l)
theorem ordB_yes {cs l : List Int} (h : OrdP cs l) : ordB cs l = true := by unfold ordB; simpa using h
theorem ordB_no {cs l : List Int} (h : ¬ OrdP cs l) : ordB cs l = false := by unfold ordB; simpa using h
section
variable {w : World} {A B : Option Addr} {n c m d : Nat} {cs : List Int} {ac : List Ac}
set_option maxHeartbeats 32000000 in
theorem wrOrdered (h : Hist w A n c B m d cs ac) (hn : n ≤ 4096) {oA : Option Addr} {on oc : Nat} {l : List Int} (hs : SB w oA on (numC l)) (hl : l.length = on) :
    Calls Tryz.prog 23 #[histV A n c B m d, .slice oA on oc] w fun e w' => e = .returned (.bool (ordB cs l)) ∧ Below w.heap.size w w' := by
  obtain ⟨r, hr⟩ : ∃ r, ordB cs l = r := ⟨_, rfl⟩
  have HRR := Lib.hid hr
  rw [hr]
  clear hr
  obtain ⟨W0, hB⟩ := h.box
  have HB := Lib.hid hB
  have HW := Lib.hid hB.eq
  have x0 := hB.x0
  have x1 := hB.x1
  have HS := Lib.hid (hs.gw hB.below)
  have HL := Lib.hid hl
  have HN := Lib.hid hn
  have HCL := Lib.hid h.cl
  have CP := Lib.hid (fun (W : World) (hW : Below W0.heap.size W0 W) (t : Int) => wrPlace (hB.h.gw hW) hn t)
  unfold histV at CP ⊢
  by_cases hne : on = n
  · subst hne
    have CA := Lib.hid (fun (W : World) (hW : Below W0.heap.size W0 W) (t : Int) => wrAt (c := oc) (HS.out.gw hW) hl hn t)
    clear h hB hs hl hn
    go_enter Tryz.func23, Tryz.ntmps23
    go_upto_region 1 with fail
    rw [HW.out]
    go_upto_region 4 with fail
    go_loopw [5] (fun i wr => ∃ j : Nat, i = .int .i64 (j : Nat) ∧ j ≤ on ∧ (∀ (i : Nat) x, i < j → l[i]? = some x → x ∈ cs ∧ plcP l x = (i : Int)) ∧ Below W0.heap.size W0 wr) (fun i _ => on - (intOf i).toNat)
    case atStart => exact ⟨0, rfl, Nat.zero_le _, fun i x hi => absurd hi (Nat.not_lt_zero _), Below.refl _ _⟩
    case round =>
      rename World => wr
      obtain ⟨j, rfl, hj, ha, hb⟩ := hrel
      by_cases hlt : j < on
      · obtain ⟨x, hx⟩ : ∃ x, l[j]? = some x := ⟨_, List.getElem?_eq_getElem (by rw [HL.out]; exact hlt)⟩
        obtain ⟨g, o, rfl, c0⟩ := (HS.out.gw hb).num hx
        have k0 := cell_regrown (keep_below x0 hb)
        have k1 := cell_regrown (keep_below x1 hb)
        have k2 := cell_regrown c0
        have HBG := Lib.hid (show ∀ d os, Below W0.heap.size W0 (Go.Sort.grow (redrawn wr d) os) from fun d os => hb.trans ((below_regrown wr d os).mono hb.size))
        have i1 : (j : Int) < (on : Int) := by omega
        have l1 : (j : Int) ≤ 4096 := by have := HN.out; omega
        have l2 : (0 : Int) ≤ (j : Int) := by omega
        have HA := Lib.hid ha
        have HX := Lib.hid hx
        have HLT := Lib.hid hlt
        have HBL := Lib.hid hb
        have cP := fun d os => Calls.regrown_of (CP.out _ (HBG.out d os) x)
        have cA := fun d os => Calls.regrown_of ((CA.out _ (HBG.out d os) x).mono fun e w' h => (⟨h.1, by rw [h.2]; exact Below.refl _ _⟩ : e = .returned (.int .i64 (plcP l x)) ∧ Below (Go.Sort.grow (redrawn wr d) os).heap.size (Go.Sort.grow (redrawn wr d) os) w'))
        clear hx ha hj hlt hb
        by_cases hin : x ∈ cs
        · have h0 : decide (plcP cs x < 0) = false := by have := plcP_neg (l := cs) (n := x); simp; rw [← Int.not_lt]; exact fun k => (this.1 k) hin
          obtain ⟨p1, hp1⟩ : ∃ p, plcP cs x = p := ⟨_, rfl⟩
          rw [hp1] at cP h0
          by_cases hat : plcP l x = (j : Int)
          · rw [hat] at cA
            have HN2 := Lib.hid (show ∀ (i : Nat) z, i < j + 1 → l[i]? = some z → z ∈ cs ∧ plcP l z = (i : Int) from fun i z hi hz => by
              rcases Nat.lt_or_ge i j with k | k
              · exact HA.out i z k hz
              · have e : i = j := by omega
                rw [e, HX.out] at hz
                cases hz
                rw [e]; exact ⟨hin, hat⟩)
            clear hat hin hp1
            go_upto_region 6 with fail
            refine wp_region_quietH (by kernel_rfl) (by kernel_rfl) ?_
            iterate 17 (
              refine wpQuiet_stepH (fun K hK => ?_)
              go_simp
              first
                | (refine hK _ ?_; clear hK K)
                | (apply Exists.intro
                   refine ⟨fun _ => ?_, hK _ ?_⟩
                   · first | (go_at_call 52; exact cP _ _) | (go_at_call 40; exact cA _ _)
                   clear hK K))
            refine wpQuiet_nilH ?_
            intro _ hw'
            obtain ⟨⟨dq, osq⟩, hw''⟩ := hw'
            subst hw''
            obtain ⟨Y, hY⟩ : ∃ Y, Go.Sort.grow (redrawn wr dq) osq = Y := ⟨_, rfl⟩
            have BY := Lib.hid (show Below wr.heap.size wr Y by rw [← hY]; exact below_regrown wr dq osq)
            simp only [hY]
            clear hY k0 k1 k2 cP cA HBG
            go_wp2
            go_roundw
            case rel => exact ⟨j + 1, by go_num, HLT.out, HN2.out, below_next HBL.out BY.out⟩
            case measure => have := HLT.out; simp [intOf]; omega
          · have hat1 : (plcP l x == (j : Int)) = false := by simpa using hat
            have HNO := Lib.hid (show ¬ OrdP cs l from fun k => hat (plcP_of k.2.1 HX.out))
            obtain ⟨p2, hp2⟩ : ∃ p, plcP l x = p := ⟨_, rfl⟩
            rw [hp2] at cA hat1
            clear hat hin hp1 hp2
            go_upto_region 6 with fail
            refine wp_region_quietH (by kernel_rfl) (by kernel_rfl) ?_
            iterate 17 (
              refine wpQuiet_stepH (fun K hK => ?_)
              go_simp
              first
                | (refine hK _ ?_; clear hK K)
                | (apply Exists.intro
                   refine ⟨fun _ => ?_, hK _ ?_⟩
                   · first | (go_at_call 52; exact cP _ _) | (go_at_call 40; exact cA _ _)
                   clear hK K))
            refine wpQuiet_nilH ?_
            intro _ hw'
            obtain ⟨⟨dq, osq⟩, hw''⟩ := hw'
            subst hw''
            obtain ⟨Y, hY⟩ : ∃ Y, Go.Sort.grow (redrawn wr dq) osq = Y := ⟨_, rfl⟩
            have BY := Lib.hid (show Below wr.heap.size wr Y by rw [← hY]; exact below_regrown wr dq osq)
            simp only [hY]
            clear hY k0 k1 k2 cP cA HBG
            go_wp2
            go_ret
            exact ⟨by rw [← HRR.out, ordB_no HNO.out]; rfl, below_next (below_next HB.out.below HBL.out) BY.out⟩
        · have HNO := Lib.hid (show ¬ OrdP cs l from fun k => hin (k.2.2 x (List.mem_of_getElem? HX.out)))
          have h0 : decide (plcP cs x < 0) = true := by have := plcP_neg (l := cs) (n := x); simpa using this.2 hin
          obtain ⟨p1, hp1⟩ : ∃ p, plcP cs x = p := ⟨_, rfl⟩
          rw [hp1] at cP h0
          clear hp1
          clear hin
          go_upto_region 6 with fail
          refine wp_region_quietH (by kernel_rfl) (by kernel_rfl) ?_
          iterate 17 (
            refine wpQuiet_stepH (fun K hK => ?_)
            go_simp
            first
              | (refine hK _ ?_; clear hK K)
              | (apply Exists.intro
                 refine ⟨fun _ => ?_, hK _ ?_⟩
                 · first | (go_at_call 52; exact cP _ _) | (go_at_call 40; exact cA _ _)
                 clear hK K))
          refine wpQuiet_nilH ?_
          intro _ hw'
          obtain ⟨⟨dq, osq⟩, hw''⟩ := hw'
          subst hw''
          obtain ⟨Y, hY⟩ : ∃ Y, Go.Sort.grow (redrawn wr dq) osq = Y := ⟨_, rfl⟩
          have BY := Lib.hid (show Below wr.heap.size wr Y by rw [← hY]; exact below_regrown wr dq osq)
          simp only [hY]
          clear hY k0 k1 k2 cP cA HBG
          go_wp2
          go_ret
          exact ⟨by rw [← HRR.out, ordB_no HNO.out]; rfl, below_next (below_next HB.out.below HBL.out) BY.out⟩
      · obtain rfl : j = on := by omega
        have i1 : ¬ (j : Int) < (j : Int) := by omega
        have HO := Lib.hid (show OrdP cs l from ⟨by rw [HL.out, HCL.out], plcP_nodup.2 fun i x hx => (ha i x (by rw [← HL.out]; exact (List.getElem?_eq_some_iff.1 hx).1) hx).2, fun x hx => by
          obtain ⟨i, hi⟩ := List.mem_iff_getElem?.1 hx
          exact (ha i x (by rw [← HL.out]; exact (List.getElem?_eq_some_iff.1 hi).1) hi).1⟩)
        have HBL := Lib.hid hb
        clear ha hj hlt hb
        go_wp2
        go_ret
        exact ⟨by rw [← HRR.out, ordB_yes HO.out]; rfl, below_next HB.out.below HBL.out⟩
  · have hne1 : ((on : Int) == (n : Int)) = false := by simp; omega
    have HNO := Lib.hid (show ¬ OrdP cs l from fun k => hne (by rw [← HL.out, ← HCL.out]; exact k.1))
    clear h hB hs hl hn hne
    go_enter Tryz.func23, Tryz.ntmps23
    go_upto_region 1 with fail
    rw [HW.out]
    go_wp2
    go_ret
    exact ⟨by rw [← HRR.out, ordB_no HNO.out]; rfl, HB.out.below⟩
end
end Go.Proofs.YtbmgeobmmpaghaaGreatDoor

namespace Go.Proofs.YtbmgeobmmpaghaaGreatDoor
set_option maxRecDepth 100000
open Go.Joins Go.Deep Go.ChangeShapes Go.WideShapes Go.ChangeAt Go.RowKit

/-- Numbers as they came in, and how much room there can be. -/
theorem open_coms2 {H : Type} {enc : TypeId × Value → H} {w : World} {held : Bool} {fuel : Nat} {v : Value} {y : DataW H × List MemPlace} (h : DataW.trod enc Tryz.prog w 0 (fun _ => true) held fuel 22 [v] = some y) (hl : Light Tryz.prog 22 y.1) :
    ∃ A len cap zs, v = .slice A len cap ∧ zs.length = len ∧ SB w A len (numC zs) ∧ (∀ x ∈ zs, wfI x) ∧ len ≤ cap ∧ cap ≤ 140737488351232 := by
  obtain ⟨A, len, cap, zs, e, h1, h2, h3, h4, -⟩ := open_coms h
  refine ⟨A, len, cap, zs, e, h1, h2, h3, h4, ?_⟩
  rcases open_ints Tryz.underlying22 Tryz.underlying3 cellsI11 h with ⟨hcs, hy⟩ | ⟨x, l, c, zs2, hcs, _, hl2, hm, hz, hy, -, -⟩
  · obtain rfl : v = .slice none 0 0 := by simpa using hcs
    cases e
    omega
  · obtain rfl : v = .slice (some x) l c := by simpa using hcs
    cases e
    have hz' : zs2.length = cap := by simpa using hz
    have := light_sizedS (b := 8) (cap := cap) Tryz.underlying22 bytesI11 hl (.inr ⟨_, _, by rw [hy], by simp [lits]; omega⟩)
    omega
end Go.Proofs.YtbmgeobmmpaghaaGreatDoor

namespace Go.Proofs.YtbmgeobmmpaghaaGreatDoor
set_option maxRecDepth 100000
open Go.RowKit

section
variable {w : World} {A B : Option Addr} {n c m d : Nat} {cs : List Int} {ac : List Ac}
set_option maxHeartbeats 32000000 in
theorem walkTells (h : Hist w A n c B m d cs ac) {oA : Option Addr} {on oc : Nat} {l : List Int} (hs : SB w oA on (numC l)) (hl : l.length = on) (hw : ∀ x ∈ l, wfI x) (hon : on < 4611686018427387904) :
    Calls Tryz.prog 6 #[histV A n c B m d, .slice oA on oc] w fun e w' => e = .returned (.bool true) ∧ Below w.heap.size w w' := by
  obtain ⟨W0, hB⟩ := h.box
  have HB := Lib.hid hB
  have HW := Lib.hid hB.eq
  have x0 := hB.x0
  have x1 := hB.x1
  have CL := Lib.hid wlLive
  by_cases hR : Right cs ac
  · have hs0 := hs.gw hB.below
    have hn : n ≤ 4096 := by rw [← h.cl]; exact hR.lc
    have CR := Lib.hid (wlRightOk hB.h hR)
    have CS := Lib.hid (fun W (hW : Below W0.heap.size W0 W) => wsSerialOk (oc := oc) (hB.h.gw hW) hR (hs0.gw hW) hl hw hon)
    have CO := Lib.hid (fun W (hW : Below W0.heap.size W0 W) => wrOrdered (oc := oc) (hB.h.gw hW) hn (hs0.gw hW) hl)
    by_cases ho : OrdP cs l
    · have KS := Lib.hid (fun W (hW : Below W0.heap.size W0 W) => wrSerial (oc := oc) (hB.h.gw hW) hR (hs0.gw hW) hl (by have := ho.1; rw [hl, h.cl] at this; omega))
      have hq : ordQ cs l = true := (ordQ_is hR.nd).2 ho
      rw [ordB_yes ho] at CO
      simp only [hq, if_true] at CS
      unfold histV at CR CS CO KS ⊢
      obtain ⟨r, hr⟩ : ∃ r, serB l (graphP cs ac) = r := ⟨_, rfl⟩
      rw [hr] at CS KS
      clear h hB hR hs hl hw hon hs0 hn ho hq hr
      go_enter Tryz.func6, Tryz.ntmps6
      go_upto_region 1 with fail
      rw [HW.out]
      go_upto_region 2 with (go_at_call 8; go_loud (refine CR.out.mono ?_; rintro e w1 ⟨rfl, b1⟩; have B1 := Lib.hid b1; have y0 := keep_below x0 b1; have y1 := keep_below x1 b1; clear b1))
      clear x0 x1
      go_upto_region 4 with (go_at_call 9; go_loud (refine (CL.out _).mono ?_; rintro e w2 ⟨rfl, b2⟩; have B2 := Lib.hid (below_next B1.out b2); have z0 := keep_below y0 b2; have z1 := keep_below y1 b2; clear b2))
      clear y0 y1
      go_upto_region 5 with (go_at_call 22; go_loud (refine (CS.out _ B2.out).mono ?_; rintro e w3 ⟨rfl, b3⟩; have B3 := Lib.hid (below_next B2.out b3); have y0 := keep_below z0 b3; have y1 := keep_below z1 b3; clear b3))
      clear z0 z1
      go_upto_region 7 with (go_at_call 23; go_loud (refine (CO.out _ B3.out).mono ?_; rintro e w4 ⟨rfl, b4⟩; have B4 := Lib.hid (below_next B3.out b4); have z0 := keep_below y0 b4; have z1 := keep_below y1 b4; clear b4))
      clear y0 y1
      cases r
      all_goals
        (go_wp2_with (go_at_call 24; go_loud (refine (KS.out _ B4.out).mono ?_; rintro e w5 ⟨rfl, b5⟩; have B5 := Lib.hid (below_next B4.out b5); clear b5))
         go_ret
         exact ⟨rfl, below_next HB.out.below B5.out⟩)
    · have hq : ordQ cs l = false := by
        cases q : ordQ cs l
        · rfl
        · exact absurd ((ordQ_is hR.nd).1 q) ho
      rw [ordB_no ho] at CO
      simp only [hq, Bool.false_eq_true, if_false] at CS
      unfold histV at CR CS CO ⊢
      clear h hB hR hs hl hw hon hs0 hn ho hq
      go_enter Tryz.func6, Tryz.ntmps6
      go_upto_region 1 with fail
      rw [HW.out]
      go_upto_region 2 with (go_at_call 8; go_loud (refine CR.out.mono ?_; rintro e w1 ⟨rfl, b1⟩; have B1 := Lib.hid b1; have y0 := keep_below x0 b1; have y1 := keep_below x1 b1; clear b1))
      clear x0 x1
      go_upto_region 4 with (go_at_call 9; go_loud (refine (CL.out _).mono ?_; rintro e w2 ⟨rfl, b2⟩; have B2 := Lib.hid (below_next B1.out b2); have z0 := keep_below y0 b2; have z1 := keep_below y1 b2; clear b2))
      clear y0 y1
      go_upto_region 5 with (go_at_call 22; go_loud (refine (CS.out _ B2.out).mono ?_; rintro e w3 ⟨rfl, b3⟩; have B3 := Lib.hid (below_next B2.out b3); have y0 := keep_below z0 b3; have y1 := keep_below z1 b3; clear b3))
      clear z0 z1
      go_wp2_with (go_at_call 23; go_loud (refine (CO.out _ B3.out).mono ?_; rintro e w4 ⟨rfl, b4⟩; have B4 := Lib.hid (below_next B3.out b4); clear b4))
      go_ret
      exact ⟨rfl, below_next HB.out.below B4.out⟩
  · have CR := Lib.hid (wlRightNo hB.h hR)
    unfold histV at CR ⊢
    clear h hB hR hs hl hw hon
    go_enter Tryz.func6, Tryz.ntmps6
    go_upto_region 1 with fail
    rw [HW.out]
    go_wp2_with (first
      | (go_at_call 8; go_loud (refine CR.out.mono ?_; rintro e w1 ⟨rfl, b1⟩; have B1 := Lib.hid b1; clear b1))
      | (go_at_call 9; go_loud (refine (CL.out _).mono ?_; rintro e w2 ⟨rfl, b2⟩; have B2 := Lib.hid (below_next B1.out b2); clear b2)))
    go_ret
    exact ⟨rfl, below_next HB.out.below B2.out⟩
end
/-- The given statement's call, for any history and any order as they come in. -/
theorem walk_SerialTells (A : Option Addr) (n c : Nat) (B : Option Addr) (m d : Nat) (cs : List Int) (ac : List Ac) (oA : Option Addr) (on oc : Nat) (l : List Int) (w : World) (_ : True) (h : Hist w A n c B m d cs ac) (hs : SB w oA on (numC l)) (hl : l.length = on) (hw : ∀ x ∈ l, wfI x) (hn : on ≤ oc) (hc : oc ≤ 140737488351232) :
    Calls Tryz.prog 6 #[.agg #[.slice A n c, .slice B m d], .slice oA on oc] w fun e w' => e = .returned (.bool true) ∧ Below w.heap.size w w' := walkTells h hs hl hw (by omega)
end Go.Proofs.YtbmgeobmmpaghaaGreatDoor
