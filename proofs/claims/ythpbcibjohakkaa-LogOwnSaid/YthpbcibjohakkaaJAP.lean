import Derived.Test.YthpbcibjohakkaaSum
import Derived.Test.YthpbcibjohakkaaWord
import Derived.Deep.RegionHeld3
import Derived.Test.YthpbcibjohakkaaJAM
import Derived.Deep.DeepCutAuto
import Derived.Test.YthpbcibjohakkaaJAK
import Derived.Test.YthpbcibjohakkaaJAL
/- The calls of wire.Frame and of the reference's Frame. -/
namespace Go.Proofs.Ythpbcibjohakkaa
set_option maxRecDepth 100000
open Go.RowKit

/-- What Frame leaves: the frame in new memory, no error. -/
def MakesF (w : World) (zs : List Int) (e : Ending) (w' : World) : Prop := ∃ v, e = .returned (.tuple #[v, .int .i64 0]) ∧ OB w.heap.size w' v (frameB zs) ∧ Below w.heap.size w w'

theorem frame_rows (zs : List Int) (v : Nat) : splice (splice (splice (List.replicate (8 + zs.length) 0) 0 (wordB v)) 4 (wordB (Crc.sum zs))) 8 zs = wordB v ++ (wordB (Crc.sum zs) ++ zs) :=
  splice_splice_splice _ _ _ _ 4 4 (wordB_len _) (wordB_len _) (by simp)

set_option maxHeartbeats 400000 in
theorem wframe_long (A : Option Addr) (n c : Nat) (w : World) (hl : 1048576 < n) (hn : n ≤ 140737488355328) :
    Calls Try.prog 68 #[.slice A n c] w fun e w' => e = .returned (.tuple #[.slice none 0 0, .int .i64 3]) ∧ w = w' := by
  go_enter Try.func68, Try.ntmps68
  go_wp2
  go_ret2
  exact ⟨rfl, rfl⟩

set_option maxHeartbeats 1000000 in
theorem wframe (A : Option Addr) (n c : Nat) (zs : List Int) (w : World) (h : RB w A n zs) (hl : n ≤ 1048576) :
    Calls Try.prog 68 #[.slice A n c] w (MakesF w zs) := by
  have hlen := h.len
  have hs := Crc.sum_lt h.byte
  have hmk : (Instr.makeSlice 33 (.int .i64 (8 + (n : Int))) (.int .i64 (8 + (n : Int)))).run Try.prog w = .ok (.slice (some ⟨w.heap.size, 0, none⟩) (8 + n) (8 + n)) (w.alloc (.cells (madeCells #[.int .u8 0] (8 + n)) 5)) := by
    have := run_make_bytes w (8 + (n : Int)) (8 + (n : Int)) (by omega) (by omega) (by omega)
    rw [show (8 + (n : Int)).toNat = 8 + n from by omega] at this
    exact this
  have hrow := row_made w (8 + n)
  have hb0 : Below w.heap.size w (w.alloc (.cells (madeCells #[.int .u8 0] (8 + n)) 5)) := (Below.refl _ _).alloc (Nat.le_refl _) _
  have ROW := Lib.hid hrow
  clear hrow
  have HL := Lib.hid hlen
  clear hlen
  go_enter Try.func68, Try.ntmps68
  go_wp2_with fail
  refine (wputWord w.heap.size 0 (8 + n) (8 + n) n _ _ ROW.out (by simp; omega) (by omega) (by omega) (by omega)).mono ?_
  rintro e w1 ⟨rfl, hrow1, hg1⟩
  have hb1 : Below w.heap.size w w1 := hb0.grown hg1 (by simp) (fun k hk => by injection hk with hk; omega)
  have h1 := h.below' hb1
  clear hmk ROW hb0 hg1
  go_wp2_with fail
  have i1 : (4 : Int) ≤ 8 + (n : Int) := by omega
  have i2 : 4 ≤ 8 + n := by omega
  have i3 : ¬ 8 + n = 4 := by omega
  have h1d := h1.drew
  have hrow1d := hrow1.drew
  have hls : 4 + 4 ≤ (splice (List.replicate (8 + n) (0 : Int)) 0 (wordB n)).length := by
    rw [length_splice _ _ _ (by simp [wordB_len]; omega)]; simp
  go_region_held3 (fun w' => RB w' A n zs) (first | exact h1 | exact h1d | exact h2)
    (first
      | (go_at_call 75; refine (wsum _ _ _ zs _ (by first | exact h1 | exact h1d) (by omega)).mono ?_; rintro e w2 ⟨rfl, rfl⟩)
      | (go_at_call 78; refine (wputWord w.heap.size 4 (8 + n - 4) (8 + n - 4) (Crc.sum zs) _ _ hrow1d hls (by omega) (by omega) hs).mono ?_; rintro e w2 ⟨rfl, hrow2, hg2⟩; have hb2 := hb1.drew.grown hg2 hb1.size (fun k hk => by injection hk with hk; omega); have h2 := h.below' hb2))
  clear h1 h1d hrow1 hrow1d hg2
  have i4 : (8 : Int) ≤ 8 + (n : Int) := by omega
  have i5 : 8 ≤ 8 + n := by omega
  have hl2 : 8 + n ≤ (splice (splice (List.replicate (8 + n) (0 : Int)) 0 (wordB n)) 4 (wordB (Crc.sum zs))).length := by
    rw [length_splice _ _ _ (by rw [wordB_len]; exact hls), length_splice _ _ _ (by simp [wordB_len]; omega)]; simp
  have fin : ∀ w3, Row w3 w.heap.size (splice (splice (splice (List.replicate (8 + n) (0 : Int)) 0 (wordB n)) 4 (wordB (Crc.sum zs))) 8 zs) → OB w.heap.size w3 (.slice (some ⟨w.heap.size, 0, none⟩) (8 + n) (8 + n)) (frameB zs) := by
    intro w3 hr
    have hlen := HL.out
    have e : splice (splice (splice (List.replicate (8 + n) (0 : Int)) 0 (wordB n)) 4 (wordB (Crc.sum zs))) 8 zs = frameB zs := by
      have := frame_rows zs n
      rw [hlen] at this
      rw [this]; unfold frameB; rw [hlen]
    rw [e] at hr
    have ho := hr.ob (base := w.heap.size) (frameB_byte zs h.byte) (by rw [frameB_len]; omega) (Nat.le_refl _)
    rw [frameB_len, hlen, Nat.add_comm] at ho
    exact ho
  have FIN := Lib.hid fin
  clear fin hls hb1
  rcases Nat.eq_zero_or_pos n with rfl | hpos
  · go_wp2_with (with_reducible refine row_copy rfl (.tmp 23) (.tmp 24) rfl (some ⟨w.heap.size, 0, none⟩) A 0 0 0 c 0 rfl rfl w.heap.size 8 _ hrow2 zs h2 (Nat.min_self _) (by omega) (by omega) ?_; intro w3 hrow3 hb3)
    go_ret2
    exact ⟨_, rfl, FIN.out _ hrow3, hb2.trans hb3⟩
  · have hn0 : ¬ n = 0 := by omega
    go_wp2_with (with_reducible refine row_copy rfl (.tmp 23) (.tmp 24) rfl (some ⟨w.heap.size, 8, none⟩) A n n n c n rfl rfl w.heap.size 8 _ hrow2 zs h2 (Nat.min_self _) (fun _ => rfl) (by omega) ?_; intro w3 hrow3 hb3)
    go_ret2
    exact ⟨_, rfl, FIN.out _ hrow3, hb2.trans hb3⟩

end Go.Proofs.Ythpbcibjohakkaa

/- The calls of wire.TakeFrame and of the reference's TakeFrame. -/
namespace Go.Proofs.Ythpbcibjohakkaa
set_option maxRecDepth 100000
open Go.RowKit

theorem place_yes_wide (A : Option Addr) (n c : Nat) (at_ : Int) (w : World) (h : 0 ≤ at_ ∧ at_ ≤ n) (hn : n ≤ 140737490000000) :
    Calls Try.prog 73 #[.slice A n c, .int .i64 at_] w fun e w' => e = .returned (.bool true) ∧ w = w' := by
  obtain ⟨h1, h2⟩ := h
  go_enter Try.func73, Try.ntmps73
  go_wp2
  go_ret
  exact ⟨rfl, rfl⟩

theorem place_no_wide (A : Option Addr) (n c : Nat) (at_ : Int) (w : World) (h : at_ < 0 ∨ n < at_) (hn : n ≤ 140737490000000) :
    Calls Try.prog 73 #[.slice A n c, .int .i64 at_] w fun e w' => e = .returned (.bool false) ∧ w = w' := by
  rcases Int.lt_or_le at_ 0 with h1 | h1
  · clear h
    go_enter Try.func73, Try.ntmps73
    go_wp2
    go_ret
    exact ⟨rfl, rfl⟩
  · have h2 : n < at_ := by omega
    have h3 : decide (at_ ≤ (n : Int)) = false := by simp; omega
    clear h
    go_enter Try.func73, Try.ntmps73
    go_wp2
    go_ret
    exact ⟨rfl, rfl⟩

/-- What TakeFrame leaves: the content in new memory (none where there is an error). -/
def TakesF (w : World) (t : List Int × Nat × Nat) (e : Ending) (w' : World) : Prop :=
  ∃ v, e = .returned (.tuple #[v, .int .i64 (t.2.1 : Nat), .int .i64 (t.2.2 : Nat)]) ∧ OB w.heap.size w' v t.1 ∧ Below w.heap.size w w'
theorem takesF_err {w w' : World} {x : Nat} (h : Below w.heap.size w w') : TakesF w ([], 0, x) (.returned (.tuple #[.slice none 0 0, .int .i64 0, .int .i64 (x : Nat)])) w' :=
  ⟨_, rfl, OB.nil _ _, h⟩

set_option maxHeartbeats 1000000 in
theorem wtakeFrame (A : Option Addr) (n c : Nat) (zs : List Int) (at_ : Int) (w : World) (h : RB w A n zs) (hn : n ≤ 140737490000000) (hc : n ≤ c) :
    Calls Try.prog 63 #[.slice A n c, .int .i64 at_] w (TakesF w (takeFrame zs at_)) := by
  have hl := h.len
  by_cases hp : at_ < 0 ∨ n < at_
  · have ht : takeFrame zs at_ = ([], 0, 1) := by unfold takeFrame; rw [if_pos (by omega)]
    rw [ht]; clear ht
    go_enter Try.func63, Try.ntmps63
    go_wp2_with (go_at_call 73; refine (place_no_wide _ _ _ _ _ hp hn).mono ?_; rintro e w' ⟨rfl, rfl⟩)
    go_ret3
    exact takesF_err (Below.refl _ _)
  · obtain ⟨p, rfl⟩ := Int.eq_ofNat_of_zero_le (show 0 ≤ at_ by omega)
    have hpn : p ≤ n := by omega
    have CP := Lib.hid (place_yes_wide A n c p w ⟨by omega, by omega⟩ hn)
    have HT : Hid (takeFrame zs p = if zs.length < p + 8 then ([], 0, 10)
      else if 1048576 < w4 (zs.drop p) ∨ zs.length < p + 8 + w4 (zs.drop p) then ([], 0, 10)
      else if Crc.sum ((zs.drop (p + 8)).take (w4 (zs.drop p))) ≠ w4 (zs.drop (p + 4)) then ([], 0, 10)
      else ((zs.drop (p + 8)).take (w4 (zs.drop p)), w4 (zs.drop p) + 8, 0)) := by
      show takeFrame zs p = _
      unfold takeFrame; rw [if_neg (by omega), Int.toNat_natCast]
    clear hp
    by_cases h8 : n < p + 8
    · have HF := Lib.hid (show takeFrame zs p = ([], 0, 10) by rw [HT.out, if_pos (by omega)])
      clear HT
      rw [HF.out]
      go_enter Try.func63, Try.ntmps63
      go_wp2_with (go_at_call 73; refine CP.out.mono ?_; rintro e w' ⟨rfl, rfl⟩)
      all_goals
        go_ret3
        exact takesF_err (Below.refl _ _)
    · obtain ⟨ad, rfl, hcell⟩ := h.cell (by omega)
      have hr := h.cut hpn c hc
      rw [if_neg (by omega)] at hr
      simp only [Option.map] at hr
      generalize hA : ad.add p = ad2 at hr
      generalize hys : zs.drop p = ys at hr HT
      have e4 : zs.drop (p + 4) = ys.drop 4 := by rw [← hys, List.drop_drop]
      have e8 : zs.drop (p + 8) = ys.drop 8 := by rw [← hys, List.drop_drop]
      rw [e4, e8] at HT
      have hg := hr.getD
      have hL := w4_lt ys hg
      have CW := Lib.hid fun W (hW : RB W (some ad2) (n - p) ys) => wword _ (n - p) (c - p) ys W hW (by omega) (by omega)
      obtain ⟨L, hLe⟩ : ∃ L, w4 ys = L := ⟨_, rfl⟩
      rw [hLe] at HT hL CW
      have r4 := hr.cut (k := 4) (by omega) (c - p) (by omega)
      rw [if_neg (by omega)] at r4
      have r8 := hr.cut (k := 8) (by omega) (c - p) (by omega)
      clear hcell hg hLe hys e4 e8
      have j8 : (8 : Int) ≤ ((n - p : Nat) : Int) := by omega
      have k8 : 8 ≤ n - p := by omega
      have hrd := hr.drew
      go_enter Try.func63, Try.ntmps63
      go_upto_region 6 with (go_at_call 73; refine CP.out.mono ?_; rintro e w' ⟨rfl, rfl⟩)
      go_cut [7, 8, 9] (fun s7 x r wr => x = .int .u32 (L : Int) ∧ wr = w.drew ∧ ∃ k R, s7 = .slice (some ad2) (n - p) k ∧ n - p ≤ k ∧ r = .slice R (n - p - 8) (k - 8) ∧ RB w R (n - p - 8) (ys.drop 8))
      case first =>
        by_cases hc8 : c - p ≤ 8
        · have r8' := r8
          rw [if_pos (by omega)] at r8'
          have R8 := Lib.hid r8'
          clear r8 r8'
          go_region_held3 (fun w' => RB w' (some ad2) (n - p) ys) (first | exact hr | exact hrd)
            (first
              | (go_at_call 74; refine (CW.out _ (by first | exact hr | exact hrd)).mono ?_; rintro e w2 ⟨rfl, rfl⟩))
          go_wp2_with fail
          go_meet
          exact ⟨rfl, rfl, 8, some ad2, rfl, by omega, rfl, R8.out⟩
        · have r8' := r8
          rw [if_neg (by omega)] at r8'
          have R8 := Lib.hid r8'
          clear r8 r8'
          go_region_held3 (fun w' => RB w' (some ad2) (n - p) ys) (first | exact hr | exact hrd)
            (first
              | (go_at_call 74; refine (CW.out _ (by first | exact hr | exact hrd)).mono ?_; rintro e w2 ⟨rfl, rfl⟩))
          go_wp2_with fail
          go_meet
          exact ⟨rfl, rfl, c - p, _, rfl, by omega, rfl, R8.out⟩
      case rest =>
        obtain ⟨rfl, rfl, k, R, rfl, hnk, rfl, hR⟩ := hcut
        clear r8 hr hrd CW CP hA
        have hRd := hR.drew
        have r4d := r4.drew
        by_cases hbig : 1048576 < L ∨ n < p + 8 + L
        · have HF := Lib.hid (show takeFrame zs p = ([], 0, 10) by rw [HT.out, if_neg (by omega), if_pos (by omega)])
          clear HT
          rcases Nat.lt_or_ge 1048576 L with hb1 | hb1
          · clear hbig
            go_wp2
            go_ret3
            rw [HF.out]; exact takesF_err ((Below.refl _ _).drew)
          · have hb2 : n - p - 8 < L := by omega
            clear hbig
            go_wp2
            go_ret3
            rw [HF.out]; exact takesF_err ((Below.refl _ _).drew)
        · have hLn : L ≤ n - p - 8 := by omega
          have hLm : L ≤ 1048576 := by omega
          have hT := hRd.take hLn
          generalize hct : (ys.drop 8).take L = ct at hT
          generalize hys4 : ys.drop 4 = y4 at r4d
          have hg4 := r4d.getD
          have CW4 := Lib.hid fun W (hW : RB W (Option.map (fun x => x.add 4) (some ad2)) (n - p - 4) y4) => wword _ (n - p - 4) (k - 4) y4 W hW (by omega) (by omega)
          have CS := Lib.hid fun W (hW : RB W R L ct) => wsum R L (k - 8) ct W hW (by omega)
          have HT' := Lib.hid (show takeFrame zs p = if Crc.sum ct ≠ w4 y4 then ([], 0, 10) else (ct, L + 8, 0) by rw [HT.out, if_neg (by omega), if_neg (by omega), hct, hys4])
          clear HT hbig hct hys4 hR r4 hRd
          have m1 : 4 ≤ n - p := by omega
          have m2 : (4 : Int) ≤ ((n - p : Nat) : Int) := by omega
          have m3 : ¬ k = 4 := by omega
          have m4 : L ≤ k - 8 := by omega
          have m5 : (L : Int) ≤ ((k - 8 : Nat) : Int) := by omega
          obtain ⟨w1, hw1⟩ : ∃ w1, w1 = w.drew := ⟨_, rfl⟩
          have hb1 : Below w.heap.size w w1 := by rw [hw1]; exact (Below.refl _ _).drew
          rw [← hw1] at hT r4d
          have hTd := hT.drew
          have r4dd := r4d.drew
          have hb2 : Below w.heap.size w w1.drew := hb1.drew
          go_wp2_with fail
          simp only [← hw1]
          clear hw1
          by_cases hsum : Crc.sum ct = w4 y4
          · have HF := Lib.hid (show takeFrame zs p = (ct, L + 8, 0) by rw [HT'.out, if_neg (by simp [hsum])])
            rw [← hsum] at CW4
            clear hsum HT'
            go_region_held3 (fun w' => RB w' R L ct ∧ RB w' (Option.map (fun x => x.add 4) (some ad2)) (n - p - 4) y4) (first | exact ⟨hT, r4d⟩ | exact ⟨hTd, r4dd⟩)
              (first
                | (go_at_call 75; refine (CS.out _ (by first | exact hT | exact hTd)).mono ?_; rintro e w2 ⟨rfl, rfl⟩)
                | (go_at_call 74; refine (CW4.out _ (by first | exact r4d | exact r4dd)).mono ?_; rintro e w2 ⟨rfl, rfl⟩))
            have hmk : (Instr.makeSlice 33 (.int .u32 (L : Int)) (.int .u32 (L : Int))).run Try.prog w1.drew = .ok (.slice (some ⟨w1.heap.size, 0, none⟩) L L) (w1.drew.alloc (.cells (madeCells #[.int .u8 0] L) 5)) := by
              have := run_make_bytesK .u32 .u32 w1.drew (L : Int) (L : Int) (by omega) (by omega) (by omega)
              rw [Int.toNat_natCast] at this
              exact this
            have hrow : Row (w1.alloc (.cells (madeCells #[.int .u8 0] L) 5)).drew w1.heap.size (List.replicate L 0) := (row_made w1 L).drew
            have hb3 : Below w.heap.size w (w1.alloc (.cells (madeCells #[.int .u8 0] L) 5)).drew := (hb1.alloc hb1.size _).drew
            have hT3 : RB (w1.alloc (.cells (madeCells #[.int .u8 0] L) 5)).drew R L ct := (hT.below' ((Below.refl _ _).alloc (Nat.le_refl _) _)).drew
            have HM := Lib.hid (show Nat.min (n - p - 8) L = L from Nat.min_eq_right hLn)
            have hsz := hb1.size
            have HTL := Lib.hid hT.len
            have HTB := Lib.hid hT.byte
            clear hT hTd r4d r4dd CW4 CS hg4 hb1 hb2
            go_wp2_with (with_reducible refine row_copy rfl (.tmp 44) (.tmp 45) rfl (some ⟨w1.heap.size, 0, none⟩) R L L (n - p - 8) (k - 8) L rfl rfl w1.heap.size 0 _ hrow ct hT3 HM.out (fun _ => rfl) (by simp) ?_; intro w4 hrow4 hb4)
            go_ret3
            rw [HF.out]
            have e : splice (List.replicate L (0 : Int)) 0 ct = ct := by
              unfold splice
              rw [HTL.out]; simp
            rw [e] at hrow4
            have ho := hrow4.ob (base := w.heap.size) HTB.out (by rw [HTL.out]; omega) hsz
            rw [HTL.out] at ho
            exact ⟨_, by simp; omega, ho, hb3.trans (hb4.mono hsz)⟩
          · have HF := Lib.hid (show takeFrame zs p = ([], 0, 10) by rw [HT'.out, if_pos hsum])
            have hne : (((Crc.sum ct : Nat) : Int) != ((w4 y4 : Nat) : Int)) = true := by simp; omega
            clear hsum HT'
            go_region_held3 (fun w' => RB w' R L ct ∧ RB w' (Option.map (fun x => x.add 4) (some ad2)) (n - p - 4) y4) (first | exact ⟨hT, r4d⟩ | exact ⟨hTd, r4dd⟩)
              (first
                | (go_at_call 75; refine (CS.out _ (by first | exact hT | exact hTd)).mono ?_; rintro e w2 ⟨rfl, rfl⟩)
                | (go_at_call 74; refine (CW4.out _ (by first | exact r4d | exact r4dd)).mono ?_; rintro e w2 ⟨rfl, rfl⟩))
            go_wp2
            go_ret3
            rw [HF.out]; exact takesF_err hb2
end Go.Proofs.Ythpbcibjohakkaa

/- The reference's disk: how it lies in memory, over the same plain state. -/
namespace Go.Proofs.Ythpbcibjohakkaa
set_option maxRecDepth 100000
open Go.RowKit

/-- A row of pending writes at vw reads as l; its blocks are among F and none of p, gd, gt. -/
structure RWait (F : Nat → Prop) (w : World) (vw : Value) (l : List Wr) (p gd gt : Nat) : Prop where
  nil_ : l = [] → vw = .slice none 0 0
  row : l ≠ [] → ∃ g cap, vw = .slice (some ⟨g, 0, none⟩) l.length cap ∧ g < w.heap.size ∧ F g ∧ g ≠ p ∧ g ≠ gd ∧ g ≠ gt ∧ ∀ (i : Nat) (x : Wr), l[i]? = some x →
    ∃ b cb, w.cell? ⟨g, i * 2, none⟩ = some (.int .i64 (x.p : Int)) ∧ w.cell? ⟨g, i * 2 + 1, none⟩ = some (.slice (some ⟨b, 0, none⟩) 64 cb) ∧ 64 ≤ cb ∧ RB w (some ⟨b, 0, none⟩) 64 x.b ∧ b < w.heap.size ∧ F b ∧ b ≠ p ∧ b ≠ gd ∧ b ≠ gt

theorem rb_stays {w w' : World} {g n : Nat} {zs : List Int} (h : RB w (some ⟨g, 0, none⟩) n zs) (hk : w'.heap[g]? = w.heap[g]?) : RB w' (some ⟨g, 0, none⟩) n zs :=
  ⟨h.len, h.byte, fun hn => by
    obtain ⟨ad, e, hc⟩ := h.cell hn
    cases e
    exact ⟨_, rfl, fun j hj => (World.cell?_of_block (by rw [block_add]; exact hk)).trans (hc j hj)⟩⟩
section
variable {F F' : Nat → Prop} {w w' : World} {p : Nat} {S : St} {vs : List Value} {gd cd gt ct : Nat} {vw : Value} {l : List Wr}
theorem RWait.stays (h : RWait F w vw l p gd gt) (hk : ∀ k, k < w.heap.size → F k → k ≠ p → k ≠ gd → k ≠ gt → w'.heap[k]? = w.heap[k]?) (hs : w.heap.size ≤ w'.heap.size) (hF : ∀ k, k < w.heap.size → F k → F' k) : RWait F' w' vw l p gd gt :=
  ⟨h.nil_, fun hn => by
    obtain ⟨g, cap, e, hl, hf, n1, n2, n3, hr⟩ := h.row hn
    refine ⟨g, cap, e, Nat.lt_of_lt_of_le hl hs, hF g hl hf, n1, n2, n3, fun i x hx => ?_⟩
    obtain ⟨b, cb, c1, c2, hc, rb, lb, fb, m1, m2, m3⟩ := hr i x hx
    have eg := hk g hl hf n1 n2 n3
    exact ⟨b, cb, (World.cell?_of_block (a := ⟨g, i * 2, none⟩) eg).trans c1, (World.cell?_of_block (a := ⟨g, i * 2 + 1, none⟩) eg).trans c2, hc, rb_stays rb (hk b lb fb m1 m2 m3), Nat.lt_of_lt_of_le lb hs, hF b lb fb, m1, m2, m3⟩⟩
end
end Go.Proofs.Ythpbcibjohakkaa

/- The reference's small calls: power, copied, Plan. -/
namespace Go.Proofs.Ythpbcibjohakkaa
set_option maxRecDepth 100000
open Go.RowKit

theorem Gr.of {F : Nat → Prop} {w : World} {k : Nat} (h : F k) : Gr F w k := .inl h

/-- Is there power for one more? -/
def rpow (S : St) : Bool := decide (S.plan ≠ 0)

section
variable {F : Nat → Prop} {w : World} {p : Nat} {S : St} {vs : List Value} {gd cd gt ct : Nat} {vw : Value}
end

end Go.Proofs.Ythpbcibjohakkaa

/- The reference's Plan, tear and lay. -/
namespace Go.Proofs.Ythpbcibjohakkaa
set_option maxRecDepth 100000
open Go.RowKit

section
variable {F : Nat → Prop} {w : World} {p : Nat} {S : St} {vs : List Value} {gd cd gt ct : Nat} {vw : Value}
end
end Go.Proofs.Ythpbcibjohakkaa
