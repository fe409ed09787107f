/- The walk of LogFormats: true whatever comes in. -/
import Derived.Test.YthpbcibjohakkaaJBS
namespace Go.Proofs.Ythpbcibjohakkaa
set_option maxRecDepth 100000
set_option maxRecDepth 100000
open Go.RowKit

theorem loadS_len (z ts : List Int) : (loadS z ts).last.length = z.length / 64 := by
  unfold loadS
  simp only
  rw [tearAll_len]
  simp [loadL]

set_option maxHeartbeats 8000000 in
theorem walk_LogFormats (A0 : Option Addr) (n0 c0 : Nat) (z0 : List Int) (A1 : Option Addr) (n1 c1 : Nat) (z1 : List Int) (A2 : Option Addr) (n2 c2 : Nat) (z2 : List Int) (w : World) (h0 : RB w A0 n0 z0) (hn0 : n0 ≤ c0) (hc0 : c0 ≤ 140737488351232) (h1 : RI w A1 n1 z1) (hn1 : n1 ≤ c1) (hc1 : c1 ≤ 17592186043904) (h2 : RB w A2 n2 z2) (hn2 : n2 ≤ c2) (hc2 : c2 ≤ 140737488351232) :
    Calls Try.prog 6 #[.slice A0 n0 c0, .slice A1 n1 c1, .slice A2 n2 c2] w fun e w' => e = .returned (.bool true) ∧ Below w.heap.size w w' := by
  have CL := Lib.hid (dload w A0 n0 c0 z0 h0 hn0 (by omega) A1 n1 c1 z1 h1 (by omega))
  have H2 := Lib.hid h2
  clear h0 h1 h2
  by_cases hg : loadGood z0 z1
  · have hN : 1 ≤ z0.length / 64 ∧ z0.length / 64 ≤ 16384 := ⟨hg.2.1, hg.2.2.1⟩
    have HLN := Lib.hid (loadS_len z0 z1)
    obtain ⟨N, hNN⟩ : ∃ N, z0.length / 64 = N := ⟨_, rfl⟩
    rw [hNN] at hN HLN
    have HG := Lib.hid hg
    have HN := Lib.hid hN
    obtain ⟨q, hq⟩ : ∃ q : Int, ((N : Int) - 2).tdiv 2 = q := ⟨_, rfl⟩
    have HQ := Lib.hid hq
    have CR := Lib.hid fun W => rnew W N hN.2
    rw [hq] at CR
    obtain ⟨fb, hfb⟩ : ∃ fb, decide (6 ≤ N) = fb := ⟨_, rfl⟩
    rw [hfb] at CR
    obtain ⟨S0, hS0⟩ : ∃ S0, loadS z0 z1 = S0 := ⟨_, rfl⟩
    have HCALM := Lib.hid (show Calm S0 ∧ S0.writes = 0 by rw [← hS0]; exact ⟨⟨rfl, rfl, rfl⟩, rfl⟩)
    rw [hS0] at HLN
    have HS0 := Lib.hid hS0
    clear hg hN hNN hq hS0
    go_enter Try.func6, Try.ntmps6
    go_upto_region 4 with (first
      | (go_at_call 15; go_loud (refine CL.out.mono ?_; rintro e w2 (⟨h, -⟩ | ⟨-, d, rfl, hp, b2⟩); exact absurd HG.out h; rw [HS0.out] at hp; have P2 := Lib.hid hp.shut; have B2 := Lib.hid b2; clear CL hp b2))
      | (go_at_call 9; refine (wlive _).mono ?_; rintro e w' ⟨rfl, rfl⟩))
    have CBK := Lib.hid (pblocks P2.out)
    rw [HLN.out] at CBK
    go_upto_region 5 with (first
      | (go_at_call 17; refine CBK.out.mono ?_; rintro e w' ⟨rfl, rfl⟩)
      | (go_at_call 16; go_loud (refine (CR.out _).mono ?_; rintro e w3 ⟨rfl, b3⟩; have B3 := Lib.hid b3; clear CR b3)))
    obtain ⟨p, hp⟩ : ∃ p, w3.heap.size = p := ⟨_, rfl⟩
    obtain ⟨W4, hW4⟩ : ∃ W, w3.alloc (.cells #[.int .i64 q, .slice none 0 0] 27) = W := ⟨_, rfl⟩
    have b4 : Below w3.heap.size w3 W4 := by rw [← hW4]; exact (Below.refl _ _).alloc (Nat.le_refl _) _
    have q4 := Lib.hid (show W4.heap[p]? = some (.cells #[.int .i64 q, .slice none 0 0] 27 (0, 0)) by rw [← hW4, ← hp]; exact heap_alloc_new _ _)
    have B24 := Lib.hid (show Below w2.heap.size w2 W4 from B3.out.trans (b4.mono B3.out.size))
    have P4 := Lib.hid (P2.out.below B24.out)
    have BW4 := Lib.hid (show Below w.heap.size w W4 from B2.out.trans (B24.out.mono B2.out.size))
    have HP := Lib.hid (show w2.heap.size ≤ p by rw [← hp]; exact B3.out.size)
    rw [hW4, hp]
    clear b4 hp hW4 CBK
    by_cases h6 : 6 ≤ N
    · obtain rfl : true = fb := by rw [← hfb]; simp [h6]
      have CF := Lib.hid (format_up P4.out HCALM.out.1 (by rw [HLN.out]; exact h6) (by rw [HCALM.out.2]; omega) (by rw [HCALM.out.2]; omega))
      have H6 := Lib.hid h6
      clear h6 hfb
      go_upto_region 8 with (go_at_call 18; go_loud (refine CF.out.mono ?_; rintro e w5 ⟨L, S5, rfl, hL, ho, hl5, hu5, hw0, hw1⟩; have O5 := Lib.hid ho; have U5 := Lib.hid hu5; have HL5 := Lib.hid hL; have HL5N := Lib.hid hl5; have HW5 := Lib.hid (And.intro hw0 hw1); clear CF hL ho hl5 hu5 hw0 hw1))
      have q5 := Lib.hid (show w5.heap[p]? = some (.cells #[.int .i64 q, .slice none 0 0] 27 (0, 0)) from (O5.out.block _ (Array.getElem?_eq_some_iff.1 q4.out).1 (fun hf => by have h1 := HP.out; have h2 := hf.2; omega)).trans q4.out)
      obtain ⟨k, hkk⟩ : ∃ k, areaSize S5.last.length = k := ⟨_, rfl⟩
      have hqa : q = ((k : Nat) : Int) := by
        rw [← hkk, HL5N.out, HLN.out, ← HQ.out, Int.tdiv_eq_ediv_of_nonneg (by have := H6.out; omega)]
        have := H6.out
        unfold areaSize
        omega
      subst hqa
      have hk2 : k ≤ 16384 := by rw [← hkk]; exact area_le U5.out.lo.2.1
      have c0 : w5.cell? ⟨p, 0, none⟩ = some (.int .i64 (k : Int)) := cell_of_row _ _ 0 _ _ _ q5.out
      have c1 : w5.cell? ⟨p, 1, none⟩ = some (.slice none 0 0) := cell_of_row _ _ 1 _ _ _ q5.out
      obtain ⟨slot, m, stamp, srs, hli, hl, hsr, hst1⟩ := U5.out.is
      rw [hkk] at hl
      have HMW := Lib.hid (show ∀ W, Below w5.heap.size w5 W → W.cell? ⟨p, 0, none⟩ = some (.int .i64 (k : Int)) ∧ W.cell? ⟨p, 1, none⟩ = some (.slice none 0 0) from fun W hb => ⟨keep_below c0 hb, keep_below c1 hb⟩)
      have RM := Lib.hid (show ∀ W, Below w5.heap.size w5 W → Calls Try.prog 19 #[.pointer (some ⟨L, 0, none⟩)] W fun e w' => e = .returned (.int .i64 (k : Int)) ∧ Below w5.heap.size w5 w' from fun W hb => by
        have := wroom (w := W) ((hb.block _ hl.lt).trans hl) (by simp [usedOf]) hk2
        rw [show (if false = true then 0 else k - usedOf [] : Nat) = k from by simp [usedOf]] at this
        exact this.mono fun e w' hh => ⟨hh.1, hb.trans (hh.2.mono hb.size)⟩)
      have RR := Lib.hid (show ∀ W, Below w5.heap.size w5 W → Calls Try.prog 20 #[.agg #[.int .i64 (k : Int), .slice none 0 0]] W fun e w' => e = .returned (.int .i64 (k : Int)) ∧ Below w5.heap.size w5 w' from fun W hb => by
        have := rroom W (fun _ => False) 0 k (.slice none 0 0) [] [] (Recs.nil _ _ _) (by simp [usedOf]) hk2 (fun r hr => by simp at hr)
        rw [show k - usedOf [] = k from by simp [usedOf]] at this
        exact this.mono fun e w' hh => ⟨hh.1, hb.trans (hh.2.mono hb.size)⟩)
      have CT := Lib.hid (show ∀ W, Below w5.heap.size w5 W → Calls Try.prog 21 #[.pointer (some ⟨L, 0, none⟩)] W fun e w' => e = .returned (.int .i64 0) ∧ Below w5.heap.size w5 w' from fun W hb => by
        have := wcount (w := W) ((hb.block _ hl.lt).trans hl)
        exact this.mono fun e w' hh => ⟨hh.1, hb.trans (hh.2.mono hb.size)⟩)
      have HKK := Lib.hid hkk
      have hsr2 : srs = [] := by cases srs with
        | nil => rfl
        | cons a t => simp at hsr
      subst hsr2
      have HLI := Lib.hid hli
      have HST := Lib.hid hst1
      clear hl hli hsr c0 c1 hkk hst1
      have hS1 := HMW.out w5.drew (Below.refl _ _).drew
      go_region_held3 (fun W => W.cell? ⟨p, 0, none⟩ = some (.int .i64 (k : Int)) ∧ W.cell? ⟨p, 1, none⟩ = some (.slice none 0 0))
        (first | exact hS2 | exact hS1)
        (first
        | (go_at_call 19; refine (RM.out _ (by first | exact HB.out | exact HB.out.drew | exact Below.refl _ _ | exact (Below.refl _ _).drew)).mono ?_; rintro e w6 ⟨rfl, hb2⟩; have HB := Lib.hid hb2; have hS2 := HMW.out _ hb2; clear hb2)
        | (go_at_call 20; refine (RR.out _ (by first | exact HB.out | exact HB.out.drew | exact Below.refl _ _ | exact (Below.refl _ _).drew)).mono ?_; rintro e w6 ⟨rfl, hb2⟩; have HB := Lib.hid hb2; have hS2 := HMW.out _ hb2; clear hb2)
        | (go_at_call 21; refine (CT.out _ (by first | exact HB.out | exact HB.out.drew | exact Below.refl _ _ | exact (Below.refl _ _).drew)).mono ?_; rintro e w6 ⟨rfl, hb2⟩; have HB := Lib.hid hb2; have hS2 := HMW.out _ hb2; clear hb2))
      all_goals
        have U6 := Lib.hid ((U5.out.below HB.out).shut)
        have HZ6 := Lib.hid (show Below w.heap.size w w6 ∧ ∀ j, (Gr (fun k => w.heap.size ≤ k ∧ k < w2.heap.size) W4 j ∧ j ≠ L) → w.heap.size ≤ j from by
          have h4 := BW4.out.size
          refine ⟨(BW4.out.trans (O5.out.below h4 fun i hi hf => by have := hf.1; omega)).trans (HB.out.mono (Nat.le_trans h4 O5.out.size)), fun j hj => ?_⟩
          rcases hj.1 with h1 | h1
          · exact h1.1
          · omega)
        have B56 := Lib.hid HB.out
        have q6 := Lib.hid (show w6.heap[p]? = some (.cells #[.int .i64 (k : Int), .slice none 0 0] 27 (0, 0)) from (HB.out.block _ (Array.getElem?_eq_some_iff.1 q5.out).1).trans q5.out)
        have CK := Lib.hid (dcrash U6.out.pd none 0 0 [] (ri_none w6) (fun ad e hp => by cases e) (by rw [U6.out.pend]; simp) (by omega))
        rw [(crash_nil S5).1, (crash_nil S5).2] at CK
        obtain ⟨S7, hS7⟩ : ∃ S7, crS S5 [] = S7 := ⟨_, rfl⟩
        have H7 := Lib.hid (show S7.off = false ∧ S7.pend = [] ∧ S7.last = S5.last ∧ S7.writes = S5.writes by
          rw [← hS7]
          refine ⟨rfl, rfl, ?_, rfl⟩
          show layAll S5.last S5.pend [] = S5.last
          cases S5.pend <;> rfl)
        rw [hS7] at CK
        clear hS7 RM RR CT HMW hS1
        go_upto_region 11 with (go_at_call 22; go_loud (refine CK.out.mono ?_; rintro e w7 ⟨rfl, p7, o7⟩; have P7 := Lib.hid p7.shut; have O7 := Lib.hid o7; clear p7 o7 CK))
        have HLI7 := Lib.hid (show LI S7.last slot m stamp [] by rw [H7.out.2.2.1]; exact HLI.out)
        have OP := Lib.hid (open_up P7.out H7.out.1 H7.out.2.1 HLI7.out (fun j hj => hj.2))
        go_upto_region 12 with (go_at_call 23; go_loud (refine OP.out.mono ?_; rintro e w8 ⟨L8, X, cx, xs, rfl, hL8, b8, -, u8⟩; have B8 := Lib.hid b8; have U8 := Lib.hid (show Up _ w8 d L8 S7 1 [] from u8.more HST.out); have HL8 := Lib.hid hL8; clear b8 u8 hL8 OP))
        have q8 := Lib.hid (show w8.heap[p]? = some (.cells #[.int .i64 (k : Int), .slice none 0 0] 27 (0, 0)) from (B8.out.block _ (Nat.lt_of_lt_of_le (Array.getElem?_eq_some_iff.1 q6.out).1 O7.out.size)).trans ((O7.out.block _ (Array.getElem?_eq_some_iff.1 q6.out).1 (fun hf => by
          rcases hf.1.1 with h1 | h1
          · have := HP.out; have := h1.2; omega
          · have := (Array.getElem?_eq_some_iff.1 q4.out).1; omega)).trans q6.out))
        have d0 : w8.cell? ⟨p, 0, none⟩ = some (.int .i64 (k : Int)) := cell_of_row _ _ 0 _ _ _ q8.out
        have d1 : w8.cell? ⟨p, 1, none⟩ = some (.slice none 0 0) := cell_of_row _ _ 1 _ _ _ q8.out
        obtain ⟨slot8, m8, stamp8, srs8, -, hl8, -, -⟩ := U8.out.is
        rw [H7.out.2.2.1, HKK.out] at hl8
        have HMW := Lib.hid (show ∀ W, Below w8.heap.size w8 W → W.cell? ⟨p, 0, none⟩ = some (.int .i64 (k : Int)) ∧ W.cell? ⟨p, 1, none⟩ = some (.slice none 0 0) from fun W hb => ⟨keep_below d0 hb, keep_below d1 hb⟩)
        have RM := Lib.hid (show ∀ W, Below w8.heap.size w8 W → Calls Try.prog 19 #[.pointer (some ⟨L8, 0, none⟩)] W fun e w' => e = .returned (.int .i64 (k : Int)) ∧ Below w8.heap.size w8 w' from fun W hb => by
          have := wroom (w := W) ((hb.block _ hl8.lt).trans hl8) (by simp [usedOf]) hk2
          rw [show (if false = true then 0 else k - usedOf [] : Nat) = k from by simp [usedOf]] at this
          exact this.mono fun e w' hh => ⟨hh.1, hb.trans (hh.2.mono hb.size)⟩)
        have RR := Lib.hid (show ∀ W, Below w8.heap.size w8 W → Calls Try.prog 20 #[.agg #[.int .i64 (k : Int), .slice none 0 0]] W fun e w' => e = .returned (.int .i64 (k : Int)) ∧ Below w8.heap.size w8 w' from fun W hb => by
          have := rroom W (fun _ => False) 0 k (.slice none 0 0) [] [] (Recs.nil _ _ _) (by simp [usedOf]) hk2 (fun r hr => by simp at hr)
          rw [show k - usedOf [] = k from by simp [usedOf]] at this
          exact this.mono fun e w' hh => ⟨hh.1, hb.trans (hh.2.mono hb.size)⟩)
        clear hl8 d0 d1
        have hS1 := HMW.out w8.drew (Below.refl _ _).drew
        go_region_held3 (fun W => W.cell? ⟨p, 0, none⟩ = some (.int .i64 (k : Int)) ∧ W.cell? ⟨p, 1, none⟩ = some (.slice none 0 0))
          (first | exact hS3 | exact hS1)
          (first
          | (go_at_call 19; refine (RM.out _ (by first | exact HD.out | exact HD.out.drew | exact Below.refl _ _ | exact (Below.refl _ _).drew)).mono ?_; rintro e w9 ⟨rfl, hb2⟩; have HD := Lib.hid hb2; have hS3 := HMW.out _ hb2; clear hb2)
          | (go_at_call 20; refine (RR.out _ (by first | exact HD.out | exact HD.out.drew | exact Below.refl _ _ | exact (Below.refl _ _).drew)).mono ?_; rintro e w9 ⟨rfl, hb2⟩; have HD := Lib.hid hb2; have hS3 := HMW.out _ hb2; clear hb2))
        all_goals
          have q9 := Lib.hid (show w9.heap[p]? = some (.cells #[.int .i64 (k : Int), .slice none 0 0] 27 (0, 0)) from (HD.out.block _ (Array.getElem?_eq_some_iff.1 q8.out).1).trans q8.out)
          have U9 := Lib.hid (U8.out.below HD.out)
          have d0 : w9.cell? ⟨p, 0, none⟩ = some (.int .i64 (k : Int)) := cell_of_row _ _ 0 _ _ _ q9.out
          have d1 : w9.cell? ⟨p, 1, none⟩ = some (.slice none 0 0) := cell_of_row _ _ 1 _ _ _ q9.out
          go_upto_region 15 with fail
          obtain ⟨u, hu⟩ : ∃ u, w9.heap.size = u := ⟨_, rfl⟩
          obtain ⟨WA, hWA⟩ : ∃ W, w9.alloc (.cells #[.pointer (some ⟨d, 0, none⟩), .pointer (some ⟨L8, 0, none⟩), .int .i64 (k : Int), .slice none 0 0, .slice none 0 0, .bool false, .bool false] 29) = W := ⟨_, rfl⟩
          have LA := Lib.hid (show Lw w WA u d S7 1 from by
            subst hu
            have hw6 : w.heap.size ≤ w6.heap.size := HZ6.out.1.size
            refine lw_start (HZ6.out.1.trans ((Out.below O7.out hw6 fun i hi hf => ?_).trans ((B8.out.trans (HD.out.mono B8.out.size)).mono (Nat.le_trans hw6 O7.out.size)))) U9.out (fun j hj => ?_) ?_ (Nat.le_refl _) (by rw [← hWA]; exact (Below.refl _ _).alloc (Nat.le_refl _) _) ?_
            · have := HZ6.out.2 i hf.1; omega
            · refine ⟨?_, Nat.lt_of_lt_of_le hj.2 (Nat.le_trans B8.out.size HD.out.size)⟩
              rcases hj.1 with h1 | h1
              · exact HZ6.out.2 j h1.1
              · omega
            · have h1 := HL8.out
              have h2 := O7.out.size
              omega
            · rw [← hWA, H7.out.2.2.1, HKK.out]
              exact heap_alloc_new _ _)
          clear hS1 RM RR HMW
          rw [hWA, hu]
          have HSW := Lib.hid (show 0 ≤ S7.writes ∧ S7.writes ≤ 40000 by rw [H7.out.2.2.2]; have := HW5.out; have := HCALM.out.2; omega)
          have HFAR := Lib.hid (fun ad e hp => rb_lt H2.out ad e hp)
          have HRB := Lib.hid (fun (W : World) (hb : Below w.heap.size w W) => H2.out.below' hb)
          have C1 := Lib.hid (lw_write LA.out (by decide) HSW.out.1 (by have := HSW.out; omega) 0 (.inl rfl) 0 A2 n2 c2 z2 (HRB.out _ LA.out.base) HFAR.out hn2 (by omega) (by omega) none 0 0)
          clear d0 d1 hWA hu
          go_wp2_with (first
            | (go_at_call 14; refine C1.out.mono ?_; rintro e w10 ⟨rfl, SA, la, -, g1, -, g2⟩; have C2 := Lib.hid (lw_crash la (by decide) none 0 0 [] (ri_none w10) (fun ad e => by cases e) (by omega) (-1) (by omega)); have GA := Lib.hid (And.intro g1 g2); clear la C1 g1 g2)
            | (go_at_call 11; refine C2.out.mono ?_; rintro e w11 ⟨rfl, SB, lb, -, g1, -, g2⟩; have C3 := Lib.hid (lw_write lb (by decide) (by have := HSW.out; have := GA.out; omega) (by have := HSW.out; have := GA.out; omega) 0 (.inl rfl) 0 A2 n2 c2 z2 (HRB.out _ lb.base) HFAR.out hn2 (by omega) (by omega) none 0 0); clear lb C2 g1 g2)
            | (go_at_call 14; refine C3.out.mono ?_; rintro e w12 ⟨rfl, SC, lc, -⟩; have C4 := Lib.hid (lw_crash lc (by decide) none 0 0 [] (ri_none w12) (fun ad e => by cases e) (by omega) (-1) (by omega)); clear lc C3)
            | (go_at_call 11; go_loud (refine C4.out.mono ?_; rintro e w13 ⟨rfl, SD, ld, -⟩; have LD := Lib.hid ld; clear ld C4)))
          go_ret
          exact ⟨rfl, LD.out.base⟩
    · obtain rfl : false = fb := by rw [← hfb]; simp [h6]
      have CF := Lib.hid (wformat_small P4.out (by rw [HLN.out]; omega))
      clear h6 hfb
      go_wp2_with (go_at_call 18; go_loud (refine CF.out.mono ?_; rintro e w5 ⟨rfl, b5⟩; have B5 := Lib.hid b5; clear CF b5))
      go_ret
      exact ⟨rfl, BW4.out.trans (B5.out.mono BW4.out.size)⟩
  · have HG := Lib.hid hg
    clear hg
    go_enter Try.func6, Try.ntmps6
    go_wp2_with (first
      | (go_at_call 15; go_loud (refine CL.out.mono ?_; rintro e w2 (⟨-, rfl, b2⟩ | ⟨h, -⟩); rotate_left; exact absurd h HG.out; have B2 := Lib.hid b2; clear CL b2))
      | (go_at_call 9; refine (wlive _).mono ?_; rintro e w' ⟨rfl, rfl⟩))
    go_ret
    exact ⟨rfl, B2.out⟩
end Go.Proofs.Ythpbcibjohakkaa
