/- The walk of LockDoes: true whatever comes in. -/
import Derived.Test.YtghnafknbgmagaaLkLaw
namespace Go.Proofs.Ytghnafknbgmagaa
set_option maxRecDepth 100000
set_option maxRecDepth 100000
open Go.RowKit Go.Maps Go.ChangeMaps Go.MapKept

theorem RM.new (w : World) (most : Int) : RM (w.alloc (.cells #[.bool true, .int .i64 most, .slice none 0 0] 29)) w.heap.size most [] :=
  ⟨none, 0, heap_alloc_new _ _, SB.empty _ _, Nat.le_refl _, by simp [maxLen], by simp⟩

set_option maxHeartbeats 16000000 in
theorem walk_LockDoes (a0 : Int) (A1 : Option Addr) (n1 c1 : Nat) (z1 : List OpK) (w : World) (_ha0 : -9223372036854775808 ≤ a0 ∧ a0 ≤ 9223372036854775807) (h1 : RK w A1 n1 z1) (hn1 : n1 ≤ c1) (hc1 : c1 ≤ maxLen) :
    Calls Try.prog 3 #[.int .i64 a0, .slice A1 n1 c1] w fun e w' => e = .returned (.bool true) ∧ Below w.heap.size w w' := by
  clear _ha0
  have CB := Lib.hid (fun W => wbegun8 W)
  by_cases hin : a0 < 1 ∨ 4096 < a0
  · have CN := Lib.hid (wkNew_no (w := w) hin)
    have CR := Lib.hid (wrNew w a0)
    rw [show newP a0 = _ from if_pos hin] at CR
    clear h1
    go_enter Try.func3, Try.ntmps3
    go_wp2_with (first
      | (go_at_call 8; go_loud (refine CN.out.mono ?_; rintro e w1 ⟨rfl, hw⟩; replace hw := hw.symm; subst hw))
      | (go_at_call 9; go_loud (refine CR.out.mono ?_; rintro e w2 ⟨rfl, b2⟩; have B2 := Lib.hid b2; clear b2))
      | (go_at_call 10; go_loud (refine (CB.out _).mono ?_; rintro e w3 ⟨rfl, b3⟩; have B3 := Lib.hid b3; clear b3)))
    go_ret
    exact ⟨rfl, below_next (B2.out.alloc B2.out.size _) B3.out⟩
  · have CN := Lib.hid (wkNew (w := w) hin)
    have CR := Lib.hid (fun W => wrNew W a0)
    rw [show newP a0 = _ from if_neg hin] at CR
    have H1 := Lib.hid h1
    have HC := Lib.hid (show n1 ≤ 9223372036854775807 by simp only [maxLen] at hc1; omega)
    clear h1 hin
    go_enter Try.func3, Try.ntmps3
    go_upto_region 3 with (first
      | (go_at_call 8; go_loud (refine CN.out.mono ?_; rintro e w1 ⟨rfl, m1, b1⟩; have M1 := Lib.hid m1; have B1 := Lib.hid b1; clear m1 b1))
      | (go_at_call 9; go_loud (refine (CR.out _).mono ?_; rintro e w2 ⟨rfl, b2⟩; have B2 := Lib.hid b2; clear b2)))
    obtain ⟨m, hm⟩ : ∃ m, w.heap.size + 1 = m := ⟨_, rfl⟩
    obtain ⟨b, hb⟩ : ∃ b, w2.heap.size = b := ⟨_, rfl⟩
    obtain ⟨W3, hW3⟩ : ∃ W, w2.alloc (.cells #[.bool true, .int .i64 a0, .slice none 0 0] 29) = W := ⟨_, rfl⟩
    have L3 := Lib.hid (show Law8 w W3 m w.heap.size b a0 [] by
      have hr := RM.new w2 a0
      have h2 : Below w1.heap.size w1 W3 := by rw [← hW3]; exact B2.out.alloc B2.out.size _
      rw [hW3, hb] at hr
      have h3 := B1.out.size
      have h4 := B2.out.size
      exact ⟨⟨hm ▸ M1.out.below h2, hr⟩, below_next B1.out h2, by omega, Nat.le_refl _, by omega⟩)
    rw [hW3, hm, hb]
    clear hm hb hW3 M1 B1 B2 CN CR
    go_upto_region 8 with (go_at_call 10; go_loud (refine (CB.out _).mono ?_; rintro e w4 ⟨rfl, b4⟩; have L4 := Lib.hid (L3.out.below b4); clear b4))
    go_loopw [5, 40] (fun mv i wr => ∃ (j m r : Nat) (hs : List Hd), mv = .pointer (some ⟨m, 0, none⟩) ∧ i = .int .i64 (j : Nat) ∧ j ≤ n1 ∧ Law8 w wr m r b a0 hs) (fun _ i _ => n1 - (intOf i).toNat)
    case atStart => exact ⟨0, m, _, [], rfl, rfl, Nat.zero_le _, L4.out⟩
    case round =>
      rename World => wr
      clear L4
      obtain ⟨j, m, r, hs, rfl, rfl, hj, hL⟩ := hrel
      by_cases hlt : j < n1
      · obtain ⟨x, hx⟩ : ∃ x, z1[j]? = some x := ⟨_, List.getElem?_eq_getElem (by have := H1.out.len; omega)⟩
        have HO := Lib.hid (H1.out.is x (List.mem_of_getElem? hx))
        obtain ⟨ab, ao, rfl, q0, q1, q2, q3, q4, q5, q6⟩ := (H1.out.below hL.bel).at_ hx
        have HX := Lib.hid (rfl : x = x)
        have CS := Lib.hid (fun W m r hs (L : Law8 w W m r b a0 hs) => wstep8 L.two x HO.out)
        have SZ := Lib.hid (show Sz x.at_ from HO.out.sz)
        have NX := Lib.hid (fun hs => (rfl : nextP a0 hs x = nextP a0 hs x))
        obtain ⟨kind, tx, snap, last, ⟨tb, ky⟩, hi⟩ := x
        dsimp only at q0 q1 q2 q3 q4 q5 q6 CS SZ
        have i1 : (j : Int) < (n1 : Int) := by omega
        have jb : (j : Int) < 9223372036854775807 := by have := HC.out; omega
        have HLT := Lib.hid hlt
        obtain ⟨Y, hY⟩ : ∃ Y, wr.alloc (.cells #[.int .i64 kind, .int .i64 tx, .int .i64 snap, .int .i64 last, .string tb, .string ky, .string hi] 36) = Y := ⟨_, rfl⟩
        have HY := Lib.hid hY
        have rY := heap_alloc_new wr (.cells #[.int .i64 kind, .int .i64 tx, .int .i64 snap, .int .i64 last, .string tb, .string ky, .string hi] 36)
        rw [hY] at rY
        have gY : Below wr.heap.size wr Y := by rw [← hY]; exact (Below.refl _ _).alloc (Nat.le_refl _) _
        have y0 : Y.cell? ⟨wr.heap.size, 0, none⟩ = some (.int .i64 kind) := by rw [cell_of_row _ _ _ _ _ _ rY]; rfl
        have S0 : Y.cell? ⟨wr.heap.size, 1, none⟩ = some (.int .i64 tx) ∧ Y.cell? ⟨wr.heap.size, 2, none⟩ = some (.int .i64 snap) ∧ Y.cell? ⟨wr.heap.size, 3, none⟩ = some (.int .i64 last) ∧ Y.cell? ⟨wr.heap.size, 4, none⟩ = some (.string tb) ∧ Y.cell? ⟨wr.heap.size, 5, none⟩ = some (.string ky) ∧ Y.cell? ⟨wr.heap.size, 6, none⟩ = some (.string hi) :=
          ⟨cell_of_row _ _ 1 _ _ _ rY, cell_of_row _ _ 2 _ _ _ rY, cell_of_row _ _ 3 _ _ _ rY, cell_of_row _ _ 4 _ _ _ rY, cell_of_row _ _ 5 _ _ _ rY, cell_of_row _ _ 6 _ _ _ rY⟩
        have LY := Lib.hid (hL.below gY)
        have HYL := Lib.hid (show wr.heap.size < Y.heap.size ∧ r < wr.heap.size from ⟨(Array.getElem?_eq_some_iff.1 rY).1, hL.two.mg.map.lt⟩)
        clear hx hL rY gY hlt hY
        go_upto_region 10 with fail
        rw [HY.out]
        clear q0 q1 q2 q3 q4 q5 q6
        by_cases h6 : kind = 6
        · subst h6
          have CC := Lib.hid (wkClone LY.out.two.mg)
          obtain ⟨s1, s2, s3, s4, s5, s6⟩ := S0
          go_upto_region 13 with (go_at_call 11; go_loud (refine CC.out.mono ?_; rintro e w5 ⟨m2, r2, rfl, mm, hm2, hr2, b5⟩; have L5 := Lib.hid (LY.out.cloned mm hm2 hr2 b5); have LT := Lib.hid (show wr.heap.size < w5.heap.size ∧ r < wr.heap.size ∧ wr.heap.size ≠ r from ⟨Nat.lt_of_lt_of_le HYL.out.1 b5.size, HYL.out.2, by have := HYL.out.2; omega⟩); have S5 := Lib.hid (And.intro (keep_below y0 b5) (And.intro (keep_below s1 b5) (And.intro (keep_below s2 b5) (And.intro (keep_below s3 b5) (And.intro (keep_below s4 b5) (And.intro (keep_below s5 b5) (keep_below s6 b5))))))); clear mm hm2 hr2 b5))
          clear y0 s1 s2 s3 s4 s5 s6 CC
          obtain ⟨t0, t1, t2, t3, t4, t5, t6⟩ := S5.out
          have CT := Lib.hid (wkTake L5.out.2.1 SZ.out 99 0 0 (by decide))
          unfold lkV at CT
          dsimp only at CT
          go_upto_region 14 with (go_at_call 12; go_loud (refine CT.out.mono ?_; rintro e w6 ⟨rfl, m6, o6⟩; have L6 := Lib.hid (L5.out.1.aside L5.out.2.1 L5.out.2.2.1 L5.out.2.2.2 (by have := LY.out.rl; omega) o6); have M6 := Lib.hid m6; have t0' := o6.cell t0 LT.out.2.2; have t1' := o6.cell t1 LT.out.2.2; have t2' := o6.cell t2 LT.out.2.2; have t3' := o6.cell t3 LT.out.2.2; have t4' := o6.cell t4 LT.out.2.2; have t5' := o6.cell t5 LT.out.2.2; have t6' := o6.cell t6 LT.out.2.2; clear m6 o6))
          clear t0 t1 t2 t3 t4 t5 t6 CT S5
          have CE := Lib.hid (wkRelease M6.out tx)
          go_upto_region 15 with (go_at_call 13; go_loud (refine CE.out.mono ?_; rintro e w7 ⟨rfl, m7, o7⟩; have L7 := Lib.hid (L6.out.aside M6.out L5.out.2.2.1 L5.out.2.2.2 (by have := LY.out.rl; omega) o7); have u0 := o7.cell t0' LT.out.2.2; have u1 := o7.cell t1' LT.out.2.2; have u2 := o7.cell t2' LT.out.2.2; have u3 := o7.cell t3' LT.out.2.2; have u4 := o7.cell t4' LT.out.2.2; have u5 := o7.cell t5' LT.out.2.2; have u6 := o7.cell t6' LT.out.2.2; clear m7 o7))
          clear t0' t1' t2' t3' t4' t5' t6' CE
          go_wp2_with (go_at_call 14; go_loud (refine (CS.out _ _ _ _ L7.out).mono ?_; rintro e w8 ⟨rfl, t8, o8⟩; have L8 := Lib.hid (L7.out.step t8 o8); clear t8 o8))
          go_roundw
          case rel => exact ⟨j + 1, _, _, _, rfl, by go_num, HLT.out, L8.out⟩
          case measure => have := HLT.out; simp [intOf]; omega
        · have h6' : (kind == 6) = false := by simpa using h6
          clear h6
          obtain ⟨s1, s2, s3, s4, s5, s6⟩ := S0
          go_wp2_with (go_at_call 14; go_loud (refine (CS.out _ _ _ _ LY.out).mono ?_; rintro e w8 ⟨rfl, t8, o8⟩; have L8 := Lib.hid (LY.out.step t8 o8); clear t8 o8))
          go_roundw
          case rel => exact ⟨j + 1, _, _, _, rfl, by go_num, HLT.out, L8.out⟩
          case measure => have := HLT.out; simp [intOf]; omega
      · obtain rfl : j = n1 := by omega
        have i1 : ¬ (j : Int) < (j : Int) := by omega
        obtain ⟨A, c, hbk, -⟩ := hL.two.rm.ex
        have c2 : wr.cell? ⟨b, 2, none⟩ = some (.slice A hs.length c) := cell_of_row _ _ 2 _ _ _ hbk
        have CL := Lib.hid (fun n => wkLen (hL.two.mg.below (below_drewN8 wr n)))
        have HB := Lib.hid hL.bel
        clear hL hlt hbk hj
        go_upto_region 18 with fail
        go_quiet ((go_at_call 15; (try simp only [World.drewN_drewN]); exact Calls.quiet_of_same (CL.out _)))
        go_wp2
        go_ret
        exact ⟨by simp, below_next HB.out (below_drewN8 wr _)⟩
end Go.Proofs.Ytghnafknbgmagaa
