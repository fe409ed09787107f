/- Layer 9: the reference's has, Covers; notes in a list: count. -/
import Derived.Test.YtcpifanhmkblmaaJAF
namespace Go.Proofs.Ytcpifanhmkblmaa
set_option maxRecDepth 100000
set_option maxRecDepth 100000
open Go.RowKit

theorem has_1 (tb lo hi t k : ByteArray) : hasP ⟨tb, 1, lo, hi⟩ t k = ((tb.toList == t.toList) && (k.toList == lo.toList)) := rfl
theorem has_2 (tb lo hi t k : ByteArray) : hasP ⟨tb, 2, lo, hi⟩ t k = ((tb.toList == t.toList) && (!Op.bytesLess k.toList lo.toList && ((hi.toList == []) || Op.bytesLess k.toList hi.toList))) := rfl
theorem has_3 {kd : Int} (h1 : ¬ kd = 1) (h2 : ¬ kd = 2) (tb lo hi t k : ByteArray) : hasP ⟨tb, kd, lo, hi⟩ t k = (tb.toList == t.toList) := by
  unfold hasP
  rw [if_neg h1, if_neg h2, Bool.and_true]
set_option maxHeartbeats 8000000 in
theorem wrHas (w : World) (x : Rd) (t k : ByteArray) : Calls Try.prog 60 #[rdV x, .string t, .string k] w fun e w' => e = .returned (.bool (hasP x t k)) ∧ Below w.heap.size w w' := by
  obtain ⟨tb, kd, lo, hi⟩ := x
  obtain ⟨W, hW⟩ : ∃ W, w.alloc (.cells #[.string tb, .int .i64 kd, .string lo, .string hi] 31) = W := ⟨_, rfl⟩
  have HW := Lib.hid hW
  have HB := Lib.hid (show Below w.heap.size w W by rw [← hW]; exact below_alloc9 _ _)
  have q := rd_box w ⟨tb, kd, lo, hi⟩
  rw [hW] at q
  have x0 : W.cell? ⟨w.heap.size, 0, none⟩ = some (.string tb) := cell_of_row _ _ 0 _ _ _ q
  have x1 : W.cell? ⟨w.heap.size, 1, none⟩ = some (.int .i64 kd) := cell_of_row _ _ 1 _ _ _ q
  have x2 : W.cell? ⟨w.heap.size, 2, none⟩ = some (.string lo) := cell_of_row _ _ 2 _ _ _ q
  have x3 : W.cell? ⟨w.heap.size, 3, none⟩ = some (.string hi) := cell_of_row _ _ 3 _ _ _ q
  clear q hW
  unfold rdV
  cases e0 : (tb.toList == t.toList)
  · have HM := Lib.hid (show hasP ⟨tb, kd, lo, hi⟩ t k = false by unfold hasP; rw [e0]; rfl)
    go_enter Try.func60, Try.ntmps60
    go_upto_region 1 with fail
    rw [HW.out]
    go_wp2
    go_ret
    exact ⟨by rw [HM.out] <;> rfl, HB.out⟩
  · by_cases k1 : kd = 1
    · subst k1
      cases e1 : (k.toList == lo.toList)
      all_goals
        have HM := Lib.hid (show hasP ⟨tb, 1, lo, hi⟩ t k = _ by rw [has_1, e0, e1])
        go_enter Try.func60, Try.ntmps60
        go_upto_region 1 with fail
        rw [HW.out]
        go_wp2
        go_ret
        exact ⟨by rw [HM.out] <;> rfl, HB.out⟩
    · have k1' : (kd == 1) = false := by simpa using k1
      by_cases k2 : kd = 2
      · subst k2
        cases e1 : Op.bytesLess k.toList lo.toList <;> cases e2 : (hi.toList == []) <;> cases e3 : Op.bytesLess k.toList hi.toList
        all_goals
          have HM := Lib.hid (show hasP ⟨tb, 2, lo, hi⟩ t k = _ by rw [has_2, e0, e1, e2, e3])
          go_enter Try.func60, Try.ntmps60
          go_upto_region 1 with fail
          rw [HW.out]
          go_wp2
          go_ret
          exact ⟨by rw [HM.out] <;> rfl, HB.out⟩
      · have k2' : (kd == 2) = false := by simpa using k2
        have HM := Lib.hid (show hasP ⟨tb, kd, lo, hi⟩ t k = true by rw [has_3 k1 k2, e0])
        clear k1 k2
        go_enter Try.func60, Try.ntmps60
        go_upto_region 1 with fail
        rw [HW.out]
        go_wp2
        go_ret
        exact ⟨by rw [HM.out] <;> rfl, HB.out⟩

set_option maxHeartbeats 8000000 in
theorem wrCovers (w : World) (a b : Rd) (ha : a.lo.size ≤ 140737488355328) (hb : b.lo.size ≤ 140737488355328) : Calls Try.prog 19 #[rdV a, rdV b] w fun e w' => e = .returned (.bool (coversP a b)) ∧ Below w.heap.size w w' := by
  obtain ⟨W1, hW1⟩ : ∃ W, w.alloc (.cells #[.string a.tb, .int .i64 a.kd, .string a.lo, .string a.hi] 31) = W := ⟨_, rfl⟩
  obtain ⟨W, hW⟩ : ∃ W, W1.alloc (.cells #[.string b.tb, .int .i64 b.kd, .string b.lo, .string b.hi] 31) = W := ⟨_, rfl⟩
  have HW1 := Lib.hid hW1
  have HW := Lib.hid hW
  have b1 : Below w.heap.size w W1 := by rw [← hW1]; exact below_alloc9 _ _
  have b2 : Below W1.heap.size W1 W := by rw [← hW]; exact below_alloc9 _ _
  have HB := Lib.hid (below_next b1 b2)
  have hz1 : W1.heap.size = w.heap.size + 1 := by rw [← hW1]; simp
  have q1 := rd_box w a
  rw [hW1] at q1
  have q1 := (b2.block _ (by omega)).trans q1
  have q2 := rd_box W1 b
  rw [hW, hz1] at q2
  have Q1 := Lib.hid q1
  have Q2 := Lib.hid q2
  have x0 : W.cell? ⟨w.heap.size, 0, none⟩ = some (.string a.tb) := cell_of_row _ _ 0 _ _ _ q1
  have x1 : W.cell? ⟨w.heap.size, 1, none⟩ = some (.int .i64 a.kd) := cell_of_row _ _ 1 _ _ _ q1
  have x2 : W.cell? ⟨w.heap.size, 2, none⟩ = some (.string a.lo) := cell_of_row _ _ 2 _ _ _ q1
  have x3 : W.cell? ⟨w.heap.size, 3, none⟩ = some (.string a.hi) := cell_of_row _ _ 3 _ _ _ q1
  have y0 : W.cell? ⟨w.heap.size + 1, 0, none⟩ = some (.string b.tb) := cell_of_row _ _ 0 _ _ _ q2
  have y1 : W.cell? ⟨w.heap.size + 1, 1, none⟩ = some (.int .i64 b.kd) := cell_of_row _ _ 1 _ _ _ q2
  have y2 : W.cell? ⟨w.heap.size + 1, 2, none⟩ = some (.string b.lo) := cell_of_row _ _ 2 _ _ _ q2
  have y3 : W.cell? ⟨w.heap.size + 1, 3, none⟩ = some (.string b.hi) := cell_of_row _ _ 3 _ _ _ q2
  have CA := Lib.hid (fun W => wrMay W a)
  have CB := Lib.hid (fun W => wrMay W b)
  have EA := Lib.hid (fun W => wrEnds W a ha)
  have EB := Lib.hid (fun W => wrEnds W b hb)
  obtain ⟨ma, hma⟩ : ∃ m, mayP a = m := ⟨_, rfl⟩
  obtain ⟨mb, hmb⟩ : ∃ m, mayP b = m := ⟨_, rfl⟩
  obtain ⟨ea, hea⟩ : ∃ m, endsP a = m := ⟨_, rfl⟩
  obtain ⟨eb, heb⟩ : ∃ m, endsP b = m := ⟨_, rfl⟩
  rw [hma] at CA
  rw [hmb] at CB
  rw [hea] at EA
  rw [heb] at EB
  have HC : coversP a b = (ma && mb && (a.tb.toList == b.tb.toList) && !klB eb.1 ea.1 && (!ea.2.2 || (eb.2.2 && !klB ea.2.1 eb.2.1))) := by unfold coversP; rw [hma, hmb, hea, heb]
  obtain ⟨f1, t1, d1⟩ := ea
  obtain ⟨f2, t2, d2⟩ := eb
  dsimp only at HC EA EB
  have HC := Lib.hid HC
  unfold rdV at CA CB EA EB
  clear hW1 hW b1 b2 hz1 q1 q2 hma hmb hea heb ha hb
  unfold rdV
  cases ma
  · have HM := Lib.hid (show coversP a b = false by rw [HC.out]; rfl)
    go_enter Try.func19, Try.ntmps19
    go_upto_region 1 with fail
    rw [HW1.out, HW.out]
    go_wp2_with (go_at_call 28; refine (CA.out _).mono ?_; rintro e w3 ⟨rfl, g3⟩; have G3 := Lib.hid (below_next HB.out g3); clear g3 CA)
    go_ret
    exact ⟨by rw [HM.out] <;> rfl, G3.out⟩
  · cases mb
    · have HM := Lib.hid (show coversP a b = false by rw [HC.out]; rfl)
      go_enter Try.func19, Try.ntmps19
      go_upto_region 1 with fail
      rw [HW1.out, HW.out]
      go_wp2_with (first
        | (go_at_call 28; refine (CA.out _).mono ?_; rintro e w3 ⟨rfl, g3⟩; have G3 := Lib.hid (below_next HB.out g3); replace y0 := keep_below y0 g3; replace y1 := keep_below y1 g3; replace y2 := keep_below y2 g3; replace y3 := keep_below y3 g3; clear g3 CA)
        | (go_at_call 28; refine (CB.out _).mono ?_; rintro e w4 ⟨rfl, g4⟩; have G4 := Lib.hid (below_next G3.out g4); clear g4 CB))
      go_ret
      exact ⟨by rw [HM.out] <;> rfl, G4.out⟩
    · cases e0 : (a.tb.toList == b.tb.toList)
      · have HM := Lib.hid (show coversP a b = false by rw [HC.out, e0]; rfl)
        go_enter Try.func19, Try.ntmps19
        go_upto_region 1 with fail
        rw [HW1.out, HW.out]
        go_wp2_with (first
          | (go_at_call 28; refine (CA.out _).mono ?_; rintro e w3 ⟨rfl, g3⟩; have G3 := Lib.hid (below_next HB.out g3); replace x0 := keep_below x0 g3; replace y0 := keep_below y0 g3; replace y1 := keep_below y1 g3; replace y2 := keep_below y2 g3; replace y3 := keep_below y3 g3; clear g3 CA)
          | (go_at_call 28; refine (CB.out _).mono ?_; rintro e w4 ⟨rfl, g4⟩; have G4 := Lib.hid (below_next G3.out g4); replace x0 := keep_below x0 g4; replace y0 := keep_below y0 g4; clear g4 CB))
        go_ret
        exact ⟨by rw [HM.out] <;> rfl, G4.out⟩
      · go_enter Try.func19, Try.ntmps19
        go_upto_region 1 with fail
        rw [HW1.out, HW.out]
        go_upto_region 5 with (first
          | (go_at_call 28; refine (CA.out _).mono ?_; rintro e w3 ⟨rfl, g3⟩; have G3 := Lib.hid (below_next HB.out g3); replace x0 := keep_below x0 g3; replace x1 := keep_below x1 g3; replace x2 := keep_below x2 g3; replace x3 := keep_below x3 g3; replace y0 := keep_below y0 g3; replace y1 := keep_below y1 g3; replace y2 := keep_below y2 g3; replace y3 := keep_below y3 g3; clear g3 CA)
          | (go_at_call 28; refine (CB.out _).mono ?_; rintro e w4 ⟨rfl, g4⟩; have G4 := Lib.hid (below_next G3.out g4); replace x0 := keep_below x0 g4; replace x1 := keep_below x1 g4; replace x2 := keep_below x2 g4; replace x3 := keep_below x3 g4; replace y0 := keep_below y0 g4; replace y1 := keep_below y1 g4; replace y2 := keep_below y2 g4; replace y3 := keep_below y3 g4; clear g4 CB)
          | (go_at_call 47; refine (EA.out _).mono ?_; rintro e w5 ⟨rfl, g5⟩; have G5 := Lib.hid (below_next G4.out g5); replace y0 := keep_below y0 g5; replace y1 := keep_below y1 g5; replace y2 := keep_below y2 g5; replace y3 := keep_below y3 g5; clear g5 EA)
          | (go_at_call 47; refine (EB.out _).mono ?_; rintro e w6 ⟨rfl, g6⟩; have G6 := Lib.hid (below_next G5.out g6); clear g6 EB))
        clear x0 x1 x2 x3 y0 y1 y2 y3 Q1 Q2
        cases c1 : Op.bytesLess f2.toList f1.toList <;> cases d1 <;> cases d2 <;> cases c2 : Op.bytesLess t2.toList t1.toList <;> cases c3 : (t2.toList == t1.toList)
        all_goals
          have HM := Lib.hid (show coversP a b = _ by rw [HC.out, e0, show klB f2 f1 = _ from c1, bl_le8 t2 t1, c2, c3])
          go_wp2
          go_ret
          exact ⟨by rw [HM.out] <;> rfl, G6.out⟩
end Go.Proofs.Ytcpifanhmkblmaa
