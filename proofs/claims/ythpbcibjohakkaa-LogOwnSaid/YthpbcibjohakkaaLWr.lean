import Derived.Test.YthpbcibjohakkaaJBL
import Derived.Deep.RegionLaw
/- The law's write. -/
namespace Go.Proofs.Ythpbcibjohakkaa
set_option maxRecDepth 100000
set_option maxRecDepth 100000
open Go.RowKit

theorem ob_empty (w : World) : OB w.heap.size (w.alloc (.cells #[] 5)) (.slice (some ⟨w.heap.size, 0, none⟩) 0 0) [] :=
  ⟨⟨rfl, .inr ⟨w.heap.size, 0, _, rfl, Nat.le_refl _, heap_alloc_new _ _, Nat.le_refl _, by simp only [maxLen]; omega, by simp, by simp⟩⟩, by simp⟩

theorem ob_addr {base : Nat} {w : World} {A : Option Addr} {n c : Nat} {zs : List Int} (h : OB base w (.slice A n c) zs) : ∀ ad, A = some ad → base ≤ ad.block ∧ ad.block < w.heap.size := by
  intro ad e
  subst e
  rcases h.own.2 with ⟨hv, _⟩ | ⟨g, cap, cur, hv, hg, hh, _⟩
  · cases hv
  · injection hv with e1
    injection e1 with e1
    subst e1
    exact ⟨hg, (Array.getElem?_eq_some_iff.1 hh).1⟩

theorem out_u {u : Nat} {a b : World} (h : Out (fun j => j = u) a b) (i : Nat) (v : Value) : Out (fun j => j = u) a (b.setCell ⟨u, i, none⟩ v) := h.setCell (p := ⟨u, i, none⟩) (.inl rfl) v
theorem G6wide {G : Nat → Prop} {wr w6 : World} (hb : Below wr.heap.size wr w6) (hg : ∀ j, G j → j < wr.heap.size) : ∀ j, G j → G6 G wr w6 j := fun j hj => ⟨.inl hj, Nat.lt_of_lt_of_le (hg j hj) hb.size⟩

set_option maxHeartbeats 4000000 in
theorem lw_write_app {base wr : World} {u d : Nat} {S : St} {c : Nat} {rs : List (List Int)} (h : LwUp base wr u d S c rs) (hc : c < maxSt) (h0 : 0 ≤ S.writes) (h1 : S.writes ≤ 1152921504606846976) (N : Int) (A : Option Addr) (n cap : Nat) (zs : List Int)
    (hz : RB wr A n zs) (hA : ∀ ad, A = some ad → 0 < n → ad.block < base.heap.size) (hn : n ≤ cap) (hcap : cap ≤ 9223372036854775807) (hn2 : n ≤ 140737488355328) (K : Option Addr) (nk ck : Nat) :
    Calls Try.prog 14 #[.pointer (some ⟨u, 0, none⟩), .agg #[.int .i64 0, .int .i64 N, .slice A n cap, .slice K nk ck]] wr (LwIs base u d S (c + 1) (nblocks n)) := by
  obtain ⟨L, F, G, v, mb, vs, hM, hU, hR⟩ := h
  obtain ⟨Av, cv, rfl, -⟩ := hR.form
  have hlen := hz.len
  obtain ⟨k, hk⟩ : ∃ k, areaSize S.last.length = k := ⟨_, rfl⟩
  have hused := hU.lo.2.2
  have hk2 : k ≤ 16384 := by rw [← hk]; exact area_le hU.lo.2.1
  rw [hk] at hM hused
  obtain ⟨W1, hW1⟩ : ∃ W, wr.alloc (.cells #[.int .i64 0, .int .i64 N, .slice A n cap, .slice K nk ck] 36) = W := ⟨_, rfl⟩
  have q1 := Lib.hid (show W1.heap[wr.heap.size]? = some (.cells #[.int .i64 0, .int .i64 N, .slice A n cap, .slice K nk ck] 36 (0, 0)) by rw [← hW1]; exact heap_alloc_new _ _)
  have b1 : Below wr.heap.size wr W1 := by rw [← hW1]; exact (Below.refl _ _).alloc (Nat.le_refl _) _
  have B1 := Lib.hid b1
  obtain ⟨W2, hW2⟩ : ∃ W, W1.alloc (.cells #[] 5) = W := ⟨_, rfl⟩
  have b2 : Below W1.heap.size W1 W2 := by rw [← hW2]; exact (Below.refl _ _).alloc (Nat.le_refl _) _
  have B2 := Lib.hid b2
  have OB2 := Lib.hid (show OB W1.heap.size W2 (.slice (some ⟨W1.heap.size, 0, none⟩) 0 0) [] by rw [← hW2]; exact ob_empty W1)
  have Z2 := Lib.hid ((hz.below' b1).below' b2)
  have e2 : W2.cell? ⟨wr.heap.size, 2, none⟩ = some (.slice A n cap) := keep_below (cell_of_row _ _ 2 _ _ _ q1.out) b2
  have HM := Lib.hid hM
  have HU := Lib.hid hU
  have HR := Lib.hid hR
  have HZ := Lib.hid hz
  have HA := Lib.hid hA
  have HK := Lib.hid hk
  have HUS := Lib.hid hused
  have HLN := Lib.hid hlen
  clear hM hU hR hz hA b1 b2 hk hused hlen
  go_enter Try.func14, Try.ntmps14
  go_upto_region 2 with (at_builtin; refine ob_append rfl (.tmp 9) (.tmp 11) rfl W1.heap.size _ [] rfl OB2.out A n cap zs rfl Z2.out (by simp only [List.length_nil]; omega) B2.out.size ?_; intro v3 w3 ob3 b3 gr3; have OB3 := Lib.hid ob3; have B3 := Lib.hid b3; clear gr3 ob3 b3)
  go_upto_region 4 with fail
  obtain ⟨A3, c3, rfl, rb3, hc3, hm3⟩ := OB3.out.form
  simp only [List.nil_append] at rb3 hc3 OB3 ⊢
  rw [HLN.out] at rb3 hc3 ⊢
  have B13 := Lib.hid (show Below W1.heap.size W1 w3 from B2.out.trans (B3.out))
  have BW3 := Lib.hid (show Below wr.heap.size wr w3 from B1.out.trans (B13.out.mono B1.out.size))
  have HS1 := Lib.hid (show wr.heap.size < W1.heap.size from (Array.getElem?_eq_some_iff.1 q1.out).1)
  obtain ⟨W4, hW4⟩ : ∃ W, w3.alloc (.cells #[.int .i64 0, .slice none 0 0] 27) = W := ⟨_, rfl⟩
  have q4 := Lib.hid (show W4.heap[w3.heap.size]? = some (.cells #[.int .i64 0, .slice none 0 0] 27 (0, 0)) by rw [← hW4]; exact heap_alloc_new _ _)
  have b4 : Below w3.heap.size w3 W4 := by rw [← hW4]; exact (Below.refl _ _).alloc (Nat.le_refl _) _
  have BW4 := Lib.hid (show Below wr.heap.size wr W4 from BW3.out.trans (b4.mono BW3.out.size))
  have O4 := Lib.hid (show W4.heap[wr.heap.size]? = some (.cells #[.int .i64 0, .int .i64 N, .slice A n cap, .slice K nk ck] 36 (0, 0)) from (b4.block _ (by have := HS1.out; have := B13.out.size; omega)).trans ((B13.out.block _ HS1.out).trans q1.out))
  have RB4 := Lib.hid (rb3.below' b4)
  have HC3 := Lib.hid hc3
  have HM3 := Lib.hid (show c3 ≤ 9223372036854775807 by simp only [maxLen] at hm3; omega)
  have e0 : W4.cell? ⟨wr.heap.size, 0, none⟩ = some (.int .i64 0) := cell_of_row _ _ 0 _ _ _ O4.out
  have M4 := Lib.hid (HM.out.below BW4.out)
  have x2 := M4.out.c2
  have x3 := M4.out.c3
  have CR := Lib.hid (ref_append W4 k G 0 _ rs vs (HR.out.below BW4.out) HUS.out A3 n c3 zs RB4.out hc3 HM3.out hk2)
  rw [hW4]
  obtain ⟨q, hq⟩ : ∃ q, ansA zs.length (usedOf rs) k = q := ⟨_, rfl⟩
  rw [hq] at CR
  have HQ := Lib.hid hq
  clear rb3 hc3 hm3 b4 e2 hq hW1 hW2
  go_upto_region 6 with (go_at_call 32; go_loud (refine CR.out.mono ?_; rintro e w5 ⟨X, xm, xc, xs, xb, rfl, b5, r5⟩; have B5 := Lib.hid b5; have R5 := Lib.hid r5; have z0 : w5.cell? ⟨w3.heap.size, 0, none⟩ = some (.int .i64 0) := keep_below (cell_of_row _ _ 0 _ _ _ q4.out) b5; have z1 : w5.cell? ⟨w3.heap.size, 1, none⟩ = some (.slice none 0 0) := keep_below (cell_of_row _ _ 1 _ _ _ q4.out) b5; have fz0 : w5.frozen? ⟨w3.heap.size, 0, none⟩ = false := frozen_of_row _ _ _ _ _ ((b5.block _ (Array.getElem?_eq_some_iff.1 q4.out).1).trans q4.out); have fz1 : w5.frozen? ⟨w3.heap.size, 1, none⟩ = false := frozen_of_row _ _ _ _ _ ((b5.block _ (Array.getElem?_eq_some_iff.1 q4.out).1).trans q4.out); clear b5 r5 CR))
  obtain ⟨W6, hW6⟩ : ∃ W, (w5.setCell ⟨w3.heap.size, 0, none⟩ (.int .i64 (k : Int))).setCell ⟨w3.heap.size, 1, none⟩ (.slice X xm xc) = W := ⟨_, rfl⟩
  rw [hW6]
  have HS3 := Lib.hid (show wr.heap.size < w3.heap.size by have := HS1.out; have := B13.out.size; omega)
  have HSZ6 : W6.heap.size = w5.heap.size := by rw [← hW6]; simp [World.setCell]
  have q6 := Lib.hid (show W6.heap[w3.heap.size]? = some (.cells #[.int .i64 (k : Int), .slice X xm xc] 27 (0, 0)) by
    rw [← hW6]
    have := blk_set (blk_set ((B5.out.block _ (Array.getElem?_eq_some_iff.1 q4.out).1).trans q4.out) 0 (.int .i64 (k : Int))) 1 (.slice X xm xc)
    exact this)
  have HO56 : ∀ j, j ≠ w3.heap.size → W6.heap[j]? = w5.heap[j]? := fun j hj => by rw [← hW6]; exact (heap_setCell_ne _ _ _ _ j hj).trans (heap_setCell_ne _ _ _ _ j hj)
  have BW6 := Lib.hid (show Below wr.heap.size wr W6 by
    rw [← hW6]
    have h5 : Below wr.heap.size wr w5 := BW4.out.trans (B5.out.mono BW4.out.size)
    exact (h5.setCell (p := ⟨w3.heap.size, 0, none⟩) (by simp only; have := HS3.out; omega) _).setCell (p := ⟨w3.heap.size, 1, none⟩) (by simp only; have := HS3.out; omega) _)
  have R6 := Lib.hid (show Recs (G6 G wr W6) W6 xb (.slice X xm xc) (if q = 0 then rs ++ [zs] else rs) xs from by
    have hA3 := ob_addr OB3.out
    have hw4 : W4.heap.size = w3.heap.size + 1 := by rw [← hW4]; simp
    have hss := HS3.out
    have hfr : ∀ j, FreshOr G W4 A3 j → j ≠ w3.heap.size ∧ (G j ∨ wr.heap.size ≤ j) := fun j hj => by
      rcases hj with hj | hj | ⟨ad, e, hj⟩
      · have := (HM.out.gs j hj).1; exact ⟨by omega, .inl hj⟩
      · exact ⟨by omega, .inr (by omega)⟩
      · have := hA3 ad e; have := HS1.out; exact ⟨by omega, .inr (by omega)⟩
    have h1 := R5.out.shut.stays (w' := W6) (fun j _ hj => HO56 j (hfr j hj.1).1)
    exact h1.wide (fun j hj => ⟨(hfr j hj.1).2, by rw [HSZ6]; exact hj.2⟩) (Nat.le_refl _))
  have O6 := Lib.hid (show W6.heap[wr.heap.size]? = some (.cells #[.int .i64 0, .int .i64 N, .slice A n cap, .slice K nk ck] 36 (0, 0)) from (HO56 _ (Nat.ne_of_lt HS3.out)).trans ((B5.out.block _ (Array.getElem?_eq_some_iff.1 O4.out).1).trans O4.out))
  have M6 := Lib.hid (HM.out.below BW6.out)
  have hS1 : W6.drew.cell? ⟨u, 1, none⟩ = some (.pointer (some ⟨L, 0, none⟩)) ∧ W6.drew.cell? ⟨wr.heap.size, 2, none⟩ = some (.slice A n cap) := ⟨M6.out.c1, cell_of_row _ _ 2 _ _ _ O6.out⟩
  have HFU := Lib.hid (show ∀ j, (F j ∨ j = L) → j ≠ u ∧ j < wr.heap.size from fun j hj => by
    rcases hj with hj | hj
    · exact ⟨(HM.out.fs j hj).2.2, (HM.out.fs j hj).2.1⟩
    · exact ⟨by rw [hj]; exact HM.out.l0.2, by rw [hj]; exact HU.out.llt⟩)
  have CA := Lib.hid (up_append ((HU.out.below BW6.out).stays (w' := W6.drew) fun _ _ _ => rfl) A n cap zs ((HZ.out.below' BW6.out).drew) (fun ad e hp hf => by have := HA.out ad e hp; have := (HM.out.fs _ hf).1; omega) hn hcap hc h0 h1)
  rw [HK.out, HQ.out] at CA
  have BD6 := Lib.hid (show Below wr.heap.size wr W6.drew from BW6.out.drew)
  have RD6 := Lib.hid (show Recs (G6 G wr W6.drew) W6.drew xb (.slice X xm xc) (if q = 0 then rs ++ [zs] else rs) xs from R6.out.drewN 1)
  have QD6 := Lib.hid (show W6.drew.heap[w3.heap.size]? = some (.cells #[.int .i64 (k : Int), .slice X xm xc] 27 (0, 0)) from q6.out)
  have MD6 := Lib.hid (HM.out.below BD6.out)
  clear hW6 HSZ6 HO56 z0 z1 fz0 fz1 x2 x3 e0 hW4
  go_region_held3 (fun w' => w'.cell? ⟨u, 1, none⟩ = some (.pointer (some ⟨L, 0, none⟩)) ∧ w'.cell? ⟨wr.heap.size, 2, none⟩ = some (.slice A n cap)) (first | exact hS1 | exact hS7)
    (first | (go_at_call 25; go_loud (refine CA.out.mono ?_; rintro e w7 ⟨ec, S', rfl, ho, hl7, hw1, hw2, hw3, hcs⟩; have O7 := Lib.hid ho; have HC7 := Lib.hid hcs; have HL7 := Lib.hid hl7; have hS7 : w7.cell? ⟨u, 1, none⟩ = some (.pointer (some ⟨L, 0, none⟩)) ∧ w7.cell? ⟨wr.heap.size, 2, none⟩ = some (.slice A n cap) := ⟨ho.cell hS1.1 (fun hf => (HFU.out _ hf).1 rfl), ho.cell hS1.2 (fun hf => absurd (HFU.out _ hf).2 (Nat.lt_irrefl _))⟩; clear ho hcs hl7 CA)))
  have blk7 := Lib.hid (show w7.heap[u]? = some (.cells (LwC d L k (.slice Av rs.length cv) mb false false) 29 (0, 0)) from (O7.out.block _ MD6.out.ult (fun hf => (HFU.out _ hf).1 rfl)).trans MD6.out.blk)
  have Q7 := Lib.hid (show w7.heap[w3.heap.size]? = some (.cells #[.int .i64 (k : Int), .slice X xm xc] 27 (0, 0)) from (O7.out.block _ (Array.getElem?_eq_some_iff.1 QD6.out).1 (fun hf => by have := (HFU.out _ hf).2; have := HS3.out; omega)).trans QD6.out)
  have k0 : w7.cell? ⟨u, 0, none⟩ = some (.pointer (some ⟨d, 0, none⟩)) := cell_of_row _ _ 0 _ _ _ blk7.out
  have k6 : w7.cell? ⟨u, 6, none⟩ = some (.bool false) := cell_of_row _ _ 6 _ _ _ blk7.out
  have hw2' : S'.writes ≤ S.writes + (nblocks n : Int) + 1 := by have := hw2; rw [HLN.out] at this; exact this
  clear hS7 hS1 hw2
  rcases HC7.out with ⟨hq, he, hup⟩ | ⟨hq, he, hup⟩ | ⟨hq, he, hdn⟩
  · have hq0 : ((q : Int) != 0) = true := by simp; omega
    have FIN := Lib.hid (show LwUp base w7 u d S' (c + 1) rs from HM.out.up (w9 := w7) BD6.out O7.out (Out.refl _ _) HK.out.symm HL7.out HU.out.llt hup ((HR.out.below BD6.out).wide (G6wide BD6.out (fun j hj => (HM.out.gs j hj).1)) (Nat.le_refl _)) blk7.out)
    subst he
    clear hup hq
    go_wp2
    go_ret
    exact ⟨by simp, S', .inl ⟨_, FIN.out⟩, HL7.out, hw1, hw2', hw3⟩
  · subst hq
    subst he
    have RN := RD6.out
    rw [if_pos rfl] at RN
    have HRN := Lib.hid RN
    have y0 : w7.cell? ⟨w3.heap.size, 0, none⟩ = some (.int .i64 (k : Int)) := cell_of_row _ _ 0 _ _ _ Q7.out
    have y1 : w7.cell? ⟨w3.heap.size, 1, none⟩ = some (.slice X xm xc) := cell_of_row _ _ 1 _ _ _ Q7.out
    have k2 : w7.cell? ⟨u, 2, none⟩ = some (.int .i64 (k : Int)) := cell_of_row _ _ 2 _ _ _ blk7.out
    have k3 : w7.cell? ⟨u, 3, none⟩ = some (.slice Av rs.length cv) := cell_of_row _ _ 3 _ _ _ blk7.out
    have g2 : w7.frozen? ⟨u, 2, none⟩ = false := frozen_of_row _ _ _ _ _ blk7.out
    have g3 : w7.frozen? ⟨u, 3, none⟩ = false := frozen_of_row _ _ _ _ _ blk7.out
    have PO := Lib.hid (poff hup.pd)
    rw [hup.off] at PO
    have HUP := Lib.hid hup
    clear hup RN
    go_wp2_with (go_at_call 30; refine PO.out.mono ?_; rintro e w8 ⟨rfl, rfl⟩)
    go_ret
    refine ⟨by simp, S', .inl ⟨_, HM.out.up (mb' := mb) BD6.out O7.out (((Out.refl (fun j => j = u) w7).setCell (p := ⟨u, 2, none⟩) (.inl rfl) (.int .i64 (k : Int))).setCell (p := ⟨u, 3, none⟩) (.inl rfl) (.slice X xm xc)) HK.out.symm HL7.out HU.out.llt HUP.out HRN.out ?_⟩, HL7.out, hw1, hw2', hw3⟩
    exact (blk_set (blk_set blk7.out 2 _) 3 _).trans rfl
  · subst hq
    subst he
    have RN := RD6.out
    rw [if_pos rfl] at RN
    have HRN := Lib.hid RN
    have y1 : w7.cell? ⟨w3.heap.size, 1, none⟩ = some (.slice X xm xc) := cell_of_row _ _ 1 _ _ _ Q7.out
    have k4 : w7.cell? ⟨u, 4, none⟩ = some mb := cell_of_row _ _ 4 _ _ _ blk7.out
    have k5 : w7.cell? ⟨u, 5, none⟩ = some (.bool false) := cell_of_row _ _ 5 _ _ _ blk7.out
    have g4 : w7.frozen? ⟨u, 4, none⟩ = false := frozen_of_row _ _ _ _ _ blk7.out
    have g5 : w7.frozen? ⟨u, 5, none⟩ = false := frozen_of_row _ _ _ _ _ blk7.out
    have g6 : w7.frozen? ⟨u, 6, none⟩ = false := frozen_of_row _ _ _ _ _ blk7.out
    have HNU := Lib.hid (show usedOf (rs ++ [zs]) ≤ k from by rw [usedOf_snoc]; exact ansA_next HQ.out)
    have hne1 : ¬ w3.heap.size = u := by have := HM.out.ult; have := HS3.out; omega
    have hne2 : ¬ u = w3.heap.size := fun e => hne1 e.symm
    have PO := Lib.hid (poff hdn.pd)
    rw [hdn.off] at PO
    have HDN := Lib.hid hdn
    clear hdn RN
    go_upto_region 14 with (go_at_call 30; refine PO.out.mono ?_; rintro e w8 ⟨rfl, rfl⟩)
    have KP := Lib.hid (show ∀ W, Out (fun j => j = u) w7 W → W.cell? ⟨w3.heap.size, 1, none⟩ = some (.slice X xm xc) from fun W ho => ho.cell y1 hne1)
    go_region_held3 (fun w' => w'.cell? ⟨w3.heap.size, 1, none⟩ = some (.slice X xm xc))
      (exact KP.out _ (by repeat' (first | exact Out.refl _ _ | refine out_u ?_ _ _ | refine Out.drew ?_)))
      (fail)
    all_goals
      go_wp2
      go_ret
      refine ⟨by simp, S', .inr ⟨_, _, HM.out.dn BD6.out O7.out (by repeat' (first | exact Out.refl _ _ | refine out_u ?_ _ _ | refine Out.drew ?_)) HK.out.symm HL7.out HU.out.llt HDN.out HR.out HRN.out HUS.out HNU.out ?_⟩, HL7.out, hw1, hw2', hw3⟩
      exact (blk_set (blk_set (blk_set blk7.out _ _) _ _) _ _).trans rfl
end Go.Proofs.Ythpbcibjohakkaa
