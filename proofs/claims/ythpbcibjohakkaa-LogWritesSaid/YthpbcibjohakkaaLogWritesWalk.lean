/- The walk of LogWrites: true whatever comes in. -/
import Derived.Test.YthpbcibjohakkaaJBS
namespace Go.Proofs.Ythpbcibjohakkaa
set_option maxRecDepth 100000
set_option maxRecDepth 100000
open Go.RowKit

set_option maxHeartbeats 8000000 in
theorem walk_LogWrites (a0 : Int) (A1 : Option Addr) (n1 c1 : Nat) (z1 : List OpD) (w : World) (ha0 : -9223372036854775808 ≤ a0 ∧ a0 ≤ 9223372036854775807) (h1 : RO w A1 n1 z1) (hn1 : n1 ≤ c1) (hc1 : c1 ≤ 2199023255488) :
    Calls Try.prog 4 #[.int .i64 a0, .slice A1 n1 c1] w fun e w' => e = .returned (.bool true) ∧ Below w.heap.size w w' := by
  have CB := Lib.hid (lbegun w a0 ha0)
  have H1 := Lib.hid h1
  clear h1
  go_enter Try.func4, Try.ntmps4
  by_cases hin : 6 ≤ a0 ∧ a0 ≤ 16384
  · have HIN := Lib.hid hin
    clear hin
    go_upto_region 2 with (go_at_call 8; go_loud (refine CB.out.mono ?_; rintro e w1 (⟨h, -⟩ | ⟨-, d, L, S, F, rfl, hb, hU, hF, hL, hw0, hw1⟩); exact absurd HIN.out h; unfold LwC; have HB := Lib.hid hb; have HU := Lib.hid hU; have HF := Lib.hid hF; have HL := Lib.hid hL; clear hb hU hF hL CB))
    obtain ⟨u, hu⟩ : ∃ u, w1.heap.size = u := ⟨_, rfl⟩
    obtain ⟨W2, hW2⟩ : ∃ W, w1.alloc (.cells #[.pointer (some ⟨d, 0, none⟩), .pointer (some ⟨L, 0, none⟩), .int .i64 (areaSize S.last.length : Nat), .slice none 0 0, .slice none 0 0, .bool false, .bool false] 29) = W := ⟨_, rfl⟩
    rw [hW2, hu]
    have L2 := Lib.hid (show Lw w W2 u d S 1 from by
      subst hu
      refine lw_start HB.out HU.out HF.out HL.out (Nat.le_refl _) (by rw [← hW2]; exact (Below.refl _ _).alloc (Nat.le_refl _) _) ?_
      rw [← hW2]
      exact heap_alloc_new _ _)
    clear hW2 hu
    go_upto_region 6 with (go_at_call 9; refine (wlive _).mono ?_; rintro e w' ⟨rfl, rfl⟩)
    go_upto_region 7 with fail
    have HW0 := Lib.hid hw0
    have HW1 := Lib.hid hw1
    clear hw0 hw1
    go_loopw [9, 10, 11, 12, 13, 14, 31] (fun _ _ _ _ _ _ i wr => ∃ (k : Nat) (S' : St), i = .int .i64 (k : Nat) ∧ k ≤ n1 ∧ Lw w wr u d S' (1 + k) ∧ 0 ≤ S'.writes ∧ S'.writes ≤ 40000 + 16385 * (k : Int)) (fun _ _ _ _ _ _ i _ => n1 - (intOf i).toNat)
    case atStart => exact ⟨0, S, rfl, Nat.zero_le _, L2.out, HW0.out, by have := HW1.out; omega⟩
    case round =>
      obtain ⟨k, S', rfl, hk, hL, hs0, hs1⟩ := hrel
      clear L2
      by_cases hlt : k < n1
      · obtain ⟨b, o, x, rfl, hx, hxis, hrow⟩ := H1.out.at3 hL.base hlt
        obtain ⟨far1, far2⟩ := H1.out.at3far hx
        obtain ⟨kd, N, X1, m1, y1, zz1, X2, m2, y2, zz2⟩ := x
        simp only at hrow far1 far2
        have HR := Lib.hid hrow
        have HI := Lib.hid (show (Try.prog.info? 36).map (·.size) = some [Value.int .i64 kd, .int .i64 N, .slice X1 m1 y1, .slice X2 m2 y2].length by rfl)
        have hki : (k : Int) < (n1 : Int) := by omega
        have HK := Lib.hid hlt
        obtain ⟨W1, hW1⟩ : ∃ W, wr.alloc (.cells #[.int .i64 kd, .int .i64 N, .slice X1 m1 y1, .slice X2 m2 y2] 36) = W := ⟨_, rfl⟩
        have q1 := Lib.hid (show W1.heap[wr.heap.size]? = some (.cells #[.int .i64 kd, .int .i64 N, .slice X1 m1 y1, .slice X2 m2 y2] 36 (0, 0)) by rw [← hW1]; exact heap_alloc_new _ _)
        have b1 : Below wr.heap.size wr W1 := by rw [← hW1]; exact (Below.refl _ _).alloc (Nat.le_refl _) _
        have hxr := hxis.rn
        have hxb1 := hxis.b1
        have hxb2 := hxis.b2
        have hm1 := hxis.m1
        have hl1 := hxis.l1
        have hm2 := hxis.m2
        have hl2 := hxis.l2
        simp only at hxr hxb1 hxb2 hm1 hl1 hm2 hl2
        obtain ⟨F1, L1, hpd, -, hc0, -, hult, -⟩ := hL.diskAt b1
        obtain ⟨wa, hwa⟩ : ∃ wa, S'.writes = wa := ⟨_, rfl⟩
        obtain ⟨sa, hsa⟩ : ∃ sa, S'.syncs = sa := ⟨_, rfl⟩
        have CC := Lib.hid (pcounts hpd)
        rw [hwa, hsa] at CC
        have HL1 := Lib.hid (hL.below b1)
        have CD := Lib.hid (fun (kd' N' : Int) (hN' : -9223372036854775808 ≤ N' ∧ N' ≤ 9223372036854775807) (W : World) (hb : Below wr.heap.size wr W) =>
          lw_does (hL.below hb) (by unfold maxSt; omega) hs0 (by omega) kd' N' hN' X1 m1 y1 zz1 (hxb1.below' hb) far1 hl1 (by omega) (by omega) X2 m2 y2 zz2 (hxb2.below hb) far2 (by omega))
        have NB := Lib.hid fun W => rblocksN m1 W (by omega)
        have HNB := Lib.hid (show nblocks m1 ≤ 140737490000000 by unfold nblocks; split <;> omega)
        have hs0' : 0 ≤ wa := by rw [← hwa]; exact hs0
        have hs1' : wa ≤ 40000 + 16385 * (k : Int) := by rw [← hwa]; exact hs1
        have HWA := Lib.hid hwa
        have e0 : W1.cell? ⟨wr.heap.size, 0, none⟩ = some (.int .i64 kd) := cell_of_row _ _ 0 _ _ _ q1.out
        have e1 : W1.cell? ⟨wr.heap.size, 1, none⟩ = some (.int .i64 N) := cell_of_row _ _ 1 _ _ _ q1.out
        have e2 : W1.cell? ⟨wr.heap.size, 2, none⟩ = some (.slice X1 m1 y1) := cell_of_row _ _ 2 _ _ _ q1.out
        have e3 : W1.cell? ⟨wr.heap.size, 3, none⟩ = some (.slice X2 m2 y2) := cell_of_row _ _ 3 _ _ _ q1.out
        have HXR := Lib.hid hxr
        have HBL := Lib.hid b1
        clear hrow hx hL b1 hxis hlt far1 far2 hxr hxb1 hxb2 hm1 hl1 hm2 hl2 hpd hult hwa hsa hs0 hs1
        go_upto_region 10 with (first
          | (with_reducible refine wpList_load_mid rfl 36 (.tmp 33) rfl b (o + k * 4) rfl [.int .i64 kd, .int .i64 N, .slice X1 m1 y1, .slice X2 m2 y2] _ HR.out Try.underlying36 rfl HI.out ?_)
          | (go_at_call 12; go_loud (refine CC.out.mono ?_; rintro e w2 ⟨rfl, hw2⟩; have p0 : w2.cell? ⟨wr.heap.size, 0, none⟩ = some (.int .i64 kd) := (by rw [hw2]; exact e0); have p1 : w2.cell? ⟨wr.heap.size, 1, none⟩ = some (.int .i64 N) := (by rw [hw2]; exact e1); have p2 : w2.cell? ⟨wr.heap.size, 2, none⟩ = some (.slice X1 m1 y1) := (by rw [hw2]; exact e2); have p3 : w2.cell? ⟨wr.heap.size, 3, none⟩ = some (.slice X2 m2 y2) := (by rw [hw2]; exact e3); have q2 := Lib.hid (show w2.heap[wr.heap.size]? = some (.cells #[.int .i64 kd, .int .i64 N, .slice X1 m1 y1, .slice X2 m2 y2] 36 (0, 0)) by rw [hw2]; exact q1.out); have HB2 := Lib.hid (show Below wr.heap.size wr w2 by rw [hw2]; exact HBL.out.drew); clear hw2 CC)))
        clear e0 e1 e2 e3
        by_cases hkd : kd = 0 ∨ kd = 1
        · obtain ⟨nb, hnb⟩ : ∃ nb, nblocks m1 = nb := ⟨_, rfl⟩
          rw [hnb] at NB
          have hnb2 : nb ≤ 140737490000000 := by have := HNB.out; omega
          go_upto_region 11 with fail
          rcases hkd with rfl | rfl
          all_goals
            go_upto_region 15 with (go_at_call 13; refine (NB.out _).mono ?_; rintro e w' ⟨rfl, rfl⟩)
            go_upto_region 17 with (go_at_call 10; go_loud (refine (CD.out _ N HXR.out _ HB2.out).mono ?_; rintro e w5 ⟨rfl, S5, l5, -, g1, g2, g3⟩; have L5 := Lib.hid l5; obtain ⟨F5, L5', hpd5, -, hc5, -⟩ := l5.diskAt (Below.refl _ _); obtain ⟨wb, hwb⟩ : ∃ wb, S5.writes = wb := ⟨_, rfl⟩; obtain ⟨sb, hsb⟩ : ∃ sb, S5.syncs = sb := ⟨_, rfl⟩; have C5 := Lib.hid (pcounts hpd5); rw [hwb, hsb] at C5; rw [HWA.out, hwb] at g1 g2 g3; rw [if_pos (by first | exact .inl rfl | exact .inr rfl), hnb] at g2; have HWB := Lib.hid hwb; clear l5 hpd5 hwb hsb CD))
            have hdiff : ¬ 4 + (nb : Int) < wb - wa := by omega
            have hdiff2 : decide (4 + (nb : Int) < wb - wa) = false := by simp; omega
            have hwb0 : 0 ≤ wb := by omega
            have hwb1 : wb ≤ 1152921504606846976 := by omega
            go_wp2_with (go_at_call 12; go_loud (refine C5.out.mono ?_; rintro e w6 ⟨rfl, hw6⟩; have L6 := Lib.hid (show Lw w w6 u d S5 (1 + k + 1) by rw [hw6]; exact L5.out.below (Below.refl _ _).drew); clear hw6 C5))
            go_roundw
            case rel => exact ⟨k + 1, S5, by go_num, HK.out, L6.out, by rw [HWB.out]; omega, by rw [HWB.out]; omega⟩
            case measure => have := HK.out; simp [intOf]; omega
        · have k0 : (kd == 0) = false := by simp; exact fun e => hkd (.inl e)
          have k1 : (kd == 1) = false := by simp; exact fun e => hkd (.inr e)
          have HKD := Lib.hid hkd
          by_cases h3 : kd = 3
          · subst h3
            clear hkd k0 k1
            have fz := frozen_of_row _ _ 1 _ _ q2.out
            go_upto_region 15 with fail
            obtain ⟨W3, hW3⟩ : ∃ W, w2.setCell ⟨wr.heap.size, 1, none⟩ (.int .i64 (-1)) = W := ⟨_, rfl⟩
            rw [hW3]
            have q3 : W3.heap[wr.heap.size]? = some (.cells #[.int .i64 3, .int .i64 (-1), .slice X1 m1 y1, .slice X2 m2 y2] 36 (0, 0)) := by rw [← hW3]; exact (blk_set q2.out 1 _).trans rfl
            have HB3 := Lib.hid (show Below wr.heap.size wr W3 by rw [← hW3]; exact HB2.out.setCell (p := ⟨wr.heap.size, 1, none⟩) (Nat.le_refl _) _)
            clear p0 p1 p2 p3 fz hW3
            have p0 : W3.cell? ⟨wr.heap.size, 0, none⟩ = some (.int .i64 3) := cell_of_row _ _ 0 _ _ _ q3
            have p1 : W3.cell? ⟨wr.heap.size, 1, none⟩ = some (.int .i64 (-1)) := cell_of_row _ _ 1 _ _ _ q3
            have p2 : W3.cell? ⟨wr.heap.size, 2, none⟩ = some (.slice X1 m1 y1) := cell_of_row _ _ 2 _ _ _ q3
            have p3 : W3.cell? ⟨wr.heap.size, 3, none⟩ = some (.slice X2 m2 y2) := cell_of_row _ _ 3 _ _ _ q3
            clear q3
            go_upto_region 17 with (go_at_call 10; go_loud (refine (CD.out 3 (-1) (by omega) _ HB3.out).mono ?_; rintro e w5 ⟨rfl, S5, l5, -, g1, g2, g3⟩; have L5 := Lib.hid l5; obtain ⟨F5, L5', hpd5, -, hc5, -⟩ := l5.diskAt (Below.refl _ _); obtain ⟨wb, hwb⟩ : ∃ wb, S5.writes = wb := ⟨_, rfl⟩; obtain ⟨sb, hsb⟩ : ∃ sb, S5.syncs = sb := ⟨_, rfl⟩; have C5 := Lib.hid (pcounts hpd5); rw [hwb, hsb] at C5; rw [HWA.out, hwb] at g1 g2 g3; rw [if_neg (by decide)] at g2; have HWB := Lib.hid hwb; clear l5 hpd5 hwb hsb CD))
            have hdiff : ¬ 4 < wb - wa := by omega
            have hdiff2 : decide (4 < wb - wa) = false := by simp; omega
            have hwb0 : 0 ≤ wb := by omega
            have hwb1 : wb ≤ 1152921504606846976 := by omega
            go_wp2_with (go_at_call 12; go_loud (refine C5.out.mono ?_; rintro e w6 ⟨rfl, hw6⟩; have L6 := Lib.hid (show Lw w w6 u d S5 (1 + k + 1) by rw [hw6]; exact L5.out.below (Below.refl _ _).drew); clear hw6 C5))
            go_roundw
            case rel => exact ⟨k + 1, S5, by go_num, HK.out, L6.out, by rw [HWB.out]; omega, by rw [HWB.out]; omega⟩
            case measure => have := HK.out; simp [intOf]; omega
          · have k3 : (kd == 3) = false := by simpa using h3
            clear hkd h3
            go_upto_region 17 with (go_at_call 10; go_loud (refine (CD.out kd N HXR.out _ HB2.out).mono ?_; rintro e w5 ⟨rfl, S5, l5, -, g1, g2, g3⟩; have L5 := Lib.hid l5; obtain ⟨F5, L5', hpd5, -, hc5, -⟩ := l5.diskAt (Below.refl _ _); obtain ⟨wb, hwb⟩ : ∃ wb, S5.writes = wb := ⟨_, rfl⟩; obtain ⟨sb, hsb⟩ : ∃ sb, S5.syncs = sb := ⟨_, rfl⟩; have C5 := Lib.hid (pcounts hpd5); rw [hwb, hsb] at C5; rw [HWA.out, hwb] at g1 g2 g3; rw [if_neg HKD.out] at g2; have HWB := Lib.hid hwb; clear l5 hpd5 hwb hsb CD))
            have hdiff : ¬ 4 < wb - wa := by omega
            have hdiff2 : decide (4 < wb - wa) = false := by simp; omega
            have hwb0 : 0 ≤ wb := by omega
            have hwb1 : wb ≤ 1152921504606846976 := by omega
            go_wp2_with (go_at_call 12; go_loud (refine C5.out.mono ?_; rintro e w6 ⟨rfl, hw6⟩; have L6 := Lib.hid (show Lw w w6 u d S5 (1 + k + 1) by rw [hw6]; exact L5.out.below (Below.refl _ _).drew); clear hw6 C5))
            go_roundw
            case rel => exact ⟨k + 1, S5, by go_num, HK.out, L6.out, by rw [HWB.out]; omega, by rw [HWB.out]; omega⟩
            case measure => have := HK.out; simp [intOf]; omega
      · obtain rfl : k = n1 := by omega
        have HB9 := Lib.hid hL.base
        clear hL hlt hs0 hs1
        go_wp2
        go_ret
        exact ⟨rfl, HB9.out⟩
  · go_wp2_with (first
      | (go_at_call 8; go_loud (refine CB.out.mono ?_; rintro e w1 (⟨-, rfl, hb⟩ | ⟨h, -⟩); rotate_left; exact absurd h hin; unfold zeroW; have HB := Lib.hid hb; clear CB hb))
      | (go_at_call 9; refine (wlive _).mono ?_; rintro e w' ⟨rfl, rfl⟩))
    go_ret
    exact ⟨rfl, HB.out.alloc HB.out.size _⟩
end Go.Proofs.Ythpbcibjohakkaa
