/- The calls of wire.TakeFrame and of the reference's TakeFrame. -/
import Derived.Test.YtapjgancaldgaaaTake
import Derived.Test.YtapjgancaldgaaaFrame
import Derived.Deep.DeepCutAuto
namespace Go.Proofs.Ytapjgancaldgaaa
set_option maxRecDepth 100000
open Go.RowKit

theorem place_yes_wide (A : Option Addr) (n c : Nat) (at_ : Int) (w : World) (h : 0 ≤ at_ ∧ at_ ≤ n) (hn : n ≤ 140737490000000) :
    Calls Try.prog 103 #[.slice A n c, .int .i64 at_] w fun e w' => e = .returned (.bool true) ∧ w = w' := by
  obtain ⟨h1, h2⟩ := h
  go_enter Try.func103, Try.ntmps103
  go_wp2
  go_ret
  exact ⟨rfl, rfl⟩

theorem place_no_wide (A : Option Addr) (n c : Nat) (at_ : Int) (w : World) (h : at_ < 0 ∨ n < at_) (hn : n ≤ 140737490000000) :
    Calls Try.prog 103 #[.slice A n c, .int .i64 at_] w fun e w' => e = .returned (.bool false) ∧ w = w' := by
  rcases Int.lt_or_le at_ 0 with h1 | h1
  · clear h
    go_enter Try.func103, Try.ntmps103
    go_wp2
    go_ret
    exact ⟨rfl, rfl⟩
  · have h2 : n < at_ := by omega
    have h3 : decide (at_ ≤ (n : Int)) = false := by simp; omega
    clear h
    go_enter Try.func103, Try.ntmps103
    go_wp2
    go_ret
    exact ⟨rfl, rfl⟩

/-- What TakeFrame leaves: the content in new memory (none where there is an error). -/
def TakesF (w : World) (t : List Int × Nat × Nat) (e : Ending) (w' : World) : Prop :=
  ∃ v, e = .returned (.tuple #[v, .int .i64 (t.2.1 : Nat), .int .i64 (t.2.2 : Nat)]) ∧ OB w.heap.size w' v t.1 ∧ Below w.heap.size w w'
theorem takesF_err {w w' : World} {x : Nat} (h : Below w.heap.size w w') : TakesF w ([], 0, x) (.returned (.tuple #[.slice none 0 0, .int .i64 0, .int .i64 (x : Nat)])) w' :=
  ⟨_, rfl, OB.nil _ _, h⟩

set_option maxHeartbeats 1000000 in
theorem wtakeFrame (A : Option Addr) (n c : Nat) (zs : List Int) (at_ : Int) (w : World) (h : RB w A n zs) (hn : n ≤ 140737490000000) (hc : n ≤ c) :
    Calls Try.prog 96 #[.slice A n c, .int .i64 at_] w (TakesF w (takeFrame zs at_)) := by
  have hl := h.len
  by_cases hp : at_ < 0 ∨ n < at_
  · have ht : takeFrame zs at_ = ([], 0, 1) := by unfold takeFrame; rw [if_pos (by omega)]
    rw [ht]; clear ht
    go_enter Try.func96, Try.ntmps96
    go_wp2_with (go_at_call 103; refine (place_no_wide _ _ _ _ _ hp hn).mono ?_; rintro e w' ⟨rfl, rfl⟩)
    go_ret3
    exact takesF_err (Below.refl _ _)
  · obtain ⟨p, rfl⟩ := Int.eq_ofNat_of_zero_le (show 0 ≤ at_ by omega)
    have hpn : p ≤ n := by omega
    have CP := Lib.hid (place_yes_wide A n c p w ⟨by omega, by omega⟩ hn)
    have HT : Hid (takeFrame zs p = if zs.length < p + 8 then ([], 0, 10)
      else if 1048576 < w4 (zs.drop p) ∨ zs.length < p + 8 + w4 (zs.drop p) then ([], 0, 10)
      else if Crc.sum ((zs.drop (p + 8)).take (w4 (zs.drop p))) ≠ w4 (zs.drop (p + 4)) then ([], 0, 10)
      else ((zs.drop (p + 8)).take (w4 (zs.drop p)), w4 (zs.drop p) + 8, 0)) := by
      show takeFrame zs p = _
      unfold takeFrame; rw [if_neg (by omega), Int.toNat_natCast]
    clear hp
    by_cases h8 : n < p + 8
    · have HF := Lib.hid (show takeFrame zs p = ([], 0, 10) by rw [HT.out, if_pos (by omega)])
      clear HT
      rw [HF.out]
      go_enter Try.func96, Try.ntmps96
      go_wp2_with (go_at_call 103; refine CP.out.mono ?_; rintro e w' ⟨rfl, rfl⟩)
      all_goals
        go_ret3
        exact takesF_err (Below.refl _ _)
    · obtain ⟨ad, rfl, hcell⟩ := h.cell (by omega)
      have hr := h.cut hpn c hc
      rw [if_neg (by omega)] at hr
      simp only [Option.map] at hr
      generalize hA : ad.add p = ad2 at hr
      generalize hys : zs.drop p = ys at hr HT
      have e4 : zs.drop (p + 4) = ys.drop 4 := by rw [← hys, List.drop_drop]
      have e8 : zs.drop (p + 8) = ys.drop 8 := by rw [← hys, List.drop_drop]
      rw [e4, e8] at HT
      have hg := hr.getD
      have hL := w4_lt ys hg
      have CW := Lib.hid fun W (hW : RB W (some ad2) (n - p) ys) => wword _ (n - p) (c - p) ys W hW (by omega) (by omega)
      obtain ⟨L, hLe⟩ : ∃ L, w4 ys = L := ⟨_, rfl⟩
      rw [hLe] at HT hL CW
      have r4 := hr.cut (k := 4) (by omega) (c - p) (by omega)
      rw [if_neg (by omega)] at r4
      have r8 := hr.cut (k := 8) (by omega) (c - p) (by omega)
      clear hcell hg hLe hys e4 e8
      have j8 : (8 : Int) ≤ ((n - p : Nat) : Int) := by omega
      have k8 : 8 ≤ n - p := by omega
      have hrd := hr.drew
      go_enter Try.func96, Try.ntmps96
      go_upto_region 6 with (go_at_call 103; refine CP.out.mono ?_; rintro e w' ⟨rfl, rfl⟩)
      go_cut [7, 8, 9] (fun s7 x r wr => x = .int .u32 (L : Int) ∧ wr = w.drew ∧ ∃ k R, s7 = .slice (some ad2) (n - p) k ∧ n - p ≤ k ∧ r = .slice R (n - p - 8) (k - 8) ∧ RB w R (n - p - 8) (ys.drop 8))
      case first =>
        by_cases hc8 : c - p ≤ 8
        · have r8' := r8
          rw [if_pos (by omega)] at r8'
          have R8 := Lib.hid r8'
          clear r8 r8'
          go_region_held3 (fun w' => RB w' (some ad2) (n - p) ys) (first | exact hr | exact hrd)
            (first
              | (go_at_call 104; refine (CW.out _ (by first | exact hr | exact hrd)).mono ?_; rintro e w2 ⟨rfl, rfl⟩))
          go_wp2_with fail
          go_meet
          exact ⟨rfl, rfl, 8, some ad2, rfl, by omega, rfl, R8.out⟩
        · have r8' := r8
          rw [if_neg (by omega)] at r8'
          have R8 := Lib.hid r8'
          clear r8 r8'
          go_region_held3 (fun w' => RB w' (some ad2) (n - p) ys) (first | exact hr | exact hrd)
            (first
              | (go_at_call 104; refine (CW.out _ (by first | exact hr | exact hrd)).mono ?_; rintro e w2 ⟨rfl, rfl⟩))
          go_wp2_with fail
          go_meet
          exact ⟨rfl, rfl, c - p, _, rfl, by omega, rfl, R8.out⟩
      case rest =>
        obtain ⟨rfl, rfl, k, R, rfl, hnk, rfl, hR⟩ := hcut
        clear r8 hr hrd CW CP hA
        have hRd := hR.drew
        have r4d := r4.drew
        by_cases hbig : 1048576 < L ∨ n < p + 8 + L
        · have HF := Lib.hid (show takeFrame zs p = ([], 0, 10) by rw [HT.out, if_neg (by omega), if_pos (by omega)])
          clear HT
          rcases Nat.lt_or_ge 1048576 L with hb1 | hb1
          · clear hbig
            go_wp2
            go_ret3
            rw [HF.out]; exact takesF_err ((Below.refl _ _).drew)
          · have hb2 : n - p - 8 < L := by omega
            clear hbig
            go_wp2
            go_ret3
            rw [HF.out]; exact takesF_err ((Below.refl _ _).drew)
        · have hLn : L ≤ n - p - 8 := by omega
          have hLm : L ≤ 1048576 := by omega
          have hT := hRd.take hLn
          generalize hct : (ys.drop 8).take L = ct at hT
          generalize hys4 : ys.drop 4 = y4 at r4d
          have hg4 := r4d.getD
          have CW4 := Lib.hid fun W (hW : RB W (Option.map (fun x => x.add 4) (some ad2)) (n - p - 4) y4) => wword _ (n - p - 4) (k - 4) y4 W hW (by omega) (by omega)
          have CS := Lib.hid fun W (hW : RB W R L ct) => wsum R L (k - 8) ct W hW (by omega)
          have HT' := Lib.hid (show takeFrame zs p = if Crc.sum ct ≠ w4 y4 then ([], 0, 10) else (ct, L + 8, 0) by rw [HT.out, if_neg (by omega), if_neg (by omega), hct, hys4])
          clear HT hbig hct hys4 hR r4 hRd
          have m1 : 4 ≤ n - p := by omega
          have m2 : (4 : Int) ≤ ((n - p : Nat) : Int) := by omega
          have m3 : ¬ k = 4 := by omega
          have m4 : L ≤ k - 8 := by omega
          have m5 : (L : Int) ≤ ((k - 8 : Nat) : Int) := by omega
          obtain ⟨w1, hw1⟩ : ∃ w1, w1 = w.drew := ⟨_, rfl⟩
          have hb1 : Below w.heap.size w w1 := by rw [hw1]; exact (Below.refl _ _).drew
          rw [← hw1] at hT r4d
          have hTd := hT.drew
          have r4dd := r4d.drew
          have hb2 : Below w.heap.size w w1.drew := hb1.drew
          go_wp2_with fail
          simp only [← hw1]
          clear hw1
          by_cases hsum : Crc.sum ct = w4 y4
          · have HF := Lib.hid (show takeFrame zs p = (ct, L + 8, 0) by rw [HT'.out, if_neg (by simp [hsum])])
            rw [← hsum] at CW4
            clear hsum HT'
            go_region_held3 (fun w' => RB w' R L ct ∧ RB w' (Option.map (fun x => x.add 4) (some ad2)) (n - p - 4) y4) (first | exact ⟨hT, r4d⟩ | exact ⟨hTd, r4dd⟩)
              (first
                | (go_at_call 105; refine (CS.out _ (by first | exact hT | exact hTd)).mono ?_; rintro e w2 ⟨rfl, rfl⟩)
                | (go_at_call 104; refine (CW4.out _ (by first | exact r4d | exact r4dd)).mono ?_; rintro e w2 ⟨rfl, rfl⟩))
            have hmk : (Instr.makeSlice 34 (.int .u32 (L : Int)) (.int .u32 (L : Int))).run Try.prog w1.drew = .ok (.slice (some ⟨w1.heap.size, 0, none⟩) L L) (w1.drew.alloc (.cells (madeCells #[.int .u8 0] L) 5)) := by
              have := run_make_bytesK .u32 .u32 w1.drew (L : Int) (L : Int) (by omega) (by omega) (by omega)
              rw [Int.toNat_natCast] at this
              exact this
            have hrow : Row (w1.alloc (.cells (madeCells #[.int .u8 0] L) 5)).drew w1.heap.size (List.replicate L 0) := (row_made w1 L).drew
            have hb3 : Below w.heap.size w (w1.alloc (.cells (madeCells #[.int .u8 0] L) 5)).drew := (hb1.alloc hb1.size _).drew
            have hT3 : RB (w1.alloc (.cells (madeCells #[.int .u8 0] L) 5)).drew R L ct := (hT.below' ((Below.refl _ _).alloc (Nat.le_refl _) _)).drew
            have HM := Lib.hid (show Nat.min (n - p - 8) L = L from Nat.min_eq_right hLn)
            have hsz := hb1.size
            have HTL := Lib.hid hT.len
            have HTB := Lib.hid hT.byte
            clear hT hTd r4d r4dd CW4 CS hg4 hb1 hb2
            go_wp2_with (with_reducible refine row_copy rfl (.tmp 44) (.tmp 45) rfl (some ⟨w1.heap.size, 0, none⟩) R L L (n - p - 8) (k - 8) L rfl rfl w1.heap.size 0 _ hrow ct hT3 HM.out (fun _ => rfl) (by simp) ?_; intro w4 hrow4 hb4)
            go_ret3
            rw [HF.out]
            have e : splice (List.replicate L (0 : Int)) 0 ct = ct := by
              unfold splice
              rw [HTL.out]; simp
            rw [e] at hrow4
            have ho := hrow4.ob (base := w.heap.size) HTB.out (by rw [HTL.out]; omega) hsz
            rw [HTL.out] at ho
            exact ⟨_, by simp; omega, ho, hb3.trans (hb4.mono hsz)⟩
          · have HF := Lib.hid (show takeFrame zs p = ([], 0, 10) by rw [HT'.out, if_pos hsum])
            have hne : (((Crc.sum ct : Nat) : Int) != ((w4 y4 : Nat) : Int)) = true := by simp; omega
            clear hsum HT'
            go_region_held3 (fun w' => RB w' R L ct ∧ RB w' (Option.map (fun x => x.add 4) (some ad2)) (n - p - 4) y4) (first | exact ⟨hT, r4d⟩ | exact ⟨hTd, r4dd⟩)
              (first
                | (go_at_call 105; refine (CS.out _ (by first | exact hT | exact hTd)).mono ?_; rintro e w2 ⟨rfl, rfl⟩)
                | (go_at_call 104; refine (CW4.out _ (by first | exact r4d | exact r4dd)).mono ?_; rintro e w2 ⟨rfl, rfl⟩))
            go_wp2
            go_ret3
            rw [HF.out]; exact takesF_err hb2
end Go.Proofs.Ytapjgancaldgaaa
