import Derived.Test.YtcpifanhmkblmaaJAQ
import Derived.Test.YtcpifanhmkblmaaSiRef2
/- Layer 9: the law's live. -/
namespace Go.Proofs.Ytcpifanhmkblmaa
set_option maxRecDepth 100000
set_option maxRecDepth 100000
open Go.RowKit

section
variable {M : World → (Nat → Prop) → Nat → Nat → List Nt → Prop}
def rdL : Rd := ⟨⟨#[116]⟩, 1, ⟨#[97]⟩, ⟨#[]⟩⟩
theorem may_L : mayP rdL = true := by unfold rdL; rw [may_1]; simp [ByteArray.toList_eq]
theorem has_L : hasP rdL ⟨#[116]⟩ ⟨#[97]⟩ = true := by unfold rdL; rw [has_1]; simp
theorem tx_L : txP [((7 : Int), rdL)] (fun n => hasP n.2 ⟨#[116]⟩ ⟨#[97]⟩) = [7] := by
  refine (tx_unique (by simp) fun y => ?_).symm
  simp only [List.mem_singleton]
  constructor
  · rintro rfl
    exact ⟨(7, rdL), rfl, has_L, rfl⟩
  · rintro ⟨n, rfl, -, rfl⟩
    rfl
/-- The numbers of a list that the call made. -/
theorem SO.num {w : World} {base : Nat} {v : Value} {l : List Int} {n : Nat} (h : SO seN base w v n (numC l)) (hn : n = l.length) : ∃ A c, v = .slice A l.length c ∧ SB w A l.length (numC l) := by
  subst hn
  obtain ⟨A, c, e, hs, -⟩ := h.form
  exact ⟨A, c, e, by rwa [show seN.s * l.length = l.length from Nat.one_mul _] at hs⟩
theorem SO.rds {w : World} {base : Nat} {v : Value} {l : List Rd} {n : Nat} (h : SO seR base w v n (cellsR l)) (hn : n = l.length) : ∃ A c, v = .slice A l.length c ∧ SB w A (4 * l.length) (cellsR l) := by
  subst hn
  obtain ⟨A, c, e, hs, -⟩ := h.form
  exact ⟨A, c, e, hs⟩
set_option maxHeartbeats 8000000 in
theorem wlive9 (I : Api9 M) (w : World) : Calls Try.prog 11 #[] w fun e w' => e = .returned (.bool true) ∧ Below w.heap.size w w' := by
  have CN := Lib.hid (I.new w 2 (by omega) (by omega))
  have hn : noteP 2 [] 7 rdL = (0, [(7, rdL)]) := note_first (by omega) (by omega) may_L
  have CT := Lib.hid (fun (W : World) (G : Nat → Prop) (r : Nat) (m : M W G r 2 []) => I.note m 7 rdL (by decide) ⟨by decide, by decide⟩)
  rw [hn] at CT
  have CL := Lib.hid (fun (W : World) (G : Nat → Prop) (r : Nat) (m : M W G r 2 [((7 : Int), rdL)]) => I.len m)
  have CR := Lib.hid (fun (W : World) (G : Nat → Prop) (r : Nat) (m : M W G r 2 [((7 : Int), rdL)]) => I.readers m ⟨#[116]⟩ ⟨#[97]⟩ (by decide) (by decide))
  rw [tx_L] at CR
  have IB := Lib.hid I
  unfold rdV rdL at CT
  clear hn I
  go_enter Try.func11, Try.ntmps11
  go_upto_region 2 with (go_at_call 20; go_loud (refine CN.out.mono ?_; rintro e w1 ⟨r, G, rfl, m1, g1, b1⟩; have M1 := Lib.hid m1; have G1 := Lib.hid g1; have B1 := Lib.hid b1; clear m1 g1 b1))
  go_wp2_with (first
    | (go_at_call 12; go_loud (refine (CT.out _ _ _ M1.out).mono ?_; rintro e w2 ⟨rfl, G', m2, g2, o2⟩; have M2 := Lib.hid m2; have B2 := Lib.hid (B1.out.trans (o2.below B1.out.size fun i hi hg => by have := G1.out i hg; omega)); clear m2 g2 o2 CT))
    | (go_at_call 23; go_loud (refine (CL.out _ _ _ M2.out).mono ?_; rintro e w3 ⟨rfl, b3⟩; have M3 := Lib.hid (IB.out.below M2.out b3); have B3 := Lib.hid (below_next B2.out b3); clear b3 CL))
    | (go_at_call 21; go_loud (refine (CR.out _ _ _ M3.out).mono ?_; rintro e w4 ⟨v4, rfl, o4, b4⟩; obtain ⟨A4, c4, hv4, hs4⟩ := o4.num rfl; subst hv4; have S4 := Lib.hid hs4; have B4 := Lib.hid (below_next B3.out b4); clear o4 b4 hs4 CR))
    | (go_at_call 31; go_loud (refine (weqN (l := [7]) (S4.out.gw (below_alloc9 _ _)) ⟨rfl, numC_one _, fun _ => ⟨_, 0, rfl, fun j u hj => (by match j, hj with | 0, hj => (cases hj; exact cell_of_row _ _ 0 _ _ _ (heap_alloc_new _ _)))⟩⟩ (by simp)).mono ?_; rintro e w5 ⟨rfl, b5⟩; have B5 := Lib.hid (below_next (below_next B4.out (below_alloc9 _ _)) b5); clear b5)))
  go_ret
  exact ⟨rfl, B5.out⟩
end
end Go.Proofs.Ytcpifanhmkblmaa

/- Layer 9: the program's mayBe, span, Covers. -/
namespace Go.Proofs.Ytcpifanhmkblmaa
set_option maxRecDepth 100000
set_option maxRecDepth 100000
open Go.RowKit

set_option maxHeartbeats 4000000 in
theorem wpMay (w : World) (x : Rd) : Calls Try.prog 33 #[rdV x] w fun e w' => e = .returned (.bool (mayP x)) ∧ Below w.heap.size w w' := by
  obtain ⟨tb, kd, lo, hi⟩ := x
  obtain ⟨W, hW⟩ : ∃ W, w.alloc (.cells #[.string tb, .int .i64 kd, .string lo, .string hi] 31) = W := ⟨_, rfl⟩
  have HW := Lib.hid hW
  have HB := Lib.hid (show Below w.heap.size w W by rw [← hW]; exact below_alloc9 _ _)
  have q := rd_box w ⟨tb, kd, lo, hi⟩
  rw [hW] at q
  have x1 : W.cell? ⟨w.heap.size, 1, none⟩ = some (.int .i64 kd) := cell_of_row _ _ 1 _ _ _ q
  have x2 : W.cell? ⟨w.heap.size, 2, none⟩ = some (.string lo) := cell_of_row _ _ 2 _ _ _ q
  have x3 : W.cell? ⟨w.heap.size, 3, none⟩ = some (.string hi) := cell_of_row _ _ 3 _ _ _ q
  clear q hW
  unfold rdV
  by_cases k1 : kd = 1
  · subst k1
    cases e1 : (hi.toList == [])
    all_goals
      have HM := Lib.hid (show mayP ⟨tb, 1, lo, hi⟩ = _ by rw [may_1, e1])
      go_enter Try.func33, Try.ntmps33
      go_upto_region 1 with fail
      rw [HW.out]
      go_wp2
      go_ret
      exact ⟨by rw [HM.out] <;> rfl, HB.out⟩
  · have k1' : (kd == 1) = false := by simpa using k1
    by_cases k2 : kd = 2
    · subst k2
      cases e1 : (hi.toList == []) <;> cases e2 : Op.bytesLess hi.toList lo.toList <;> cases e3 : (hi.toList == lo.toList)
      all_goals
        have HM := Lib.hid (show mayP ⟨tb, 2, lo, hi⟩ = _ by rw [may_2, e1, e2, e3])
        go_enter Try.func33, Try.ntmps33
        go_upto_region 1 with fail
        rw [HW.out]
        go_wp2
        go_ret
        exact ⟨by rw [HM.out] <;> rfl, HB.out⟩
    · have k2' : (kd == 2) = false := by simpa using k2
      by_cases k3 : kd = 3
      · subst k3
        cases e1 : (lo.toList == []) <;> cases e2 : (hi.toList == [])
        all_goals
          have HM := Lib.hid (show mayP ⟨tb, 3, lo, hi⟩ = _ by rw [may_3, e1, e2])
          go_enter Try.func33, Try.ntmps33
          go_upto_region 1 with fail
          rw [HW.out]
          go_wp2
          go_ret
          exact ⟨by rw [HM.out] <;> rfl, HB.out⟩
      · have k3' : (kd == 3) = false := by simpa using k3
        have HM := Lib.hid (show mayP ⟨tb, kd, lo, hi⟩ = false by unfold mayP; rw [if_neg k1, if_neg k2, if_neg k3])
        clear k1 k2 k3
        go_enter Try.func33, Try.ntmps33
        go_upto_region 1 with fail
        rw [HW.out]
        go_wp2
        go_ret
        exact ⟨by rw [HM.out] <;> rfl, HB.out⟩
set_option maxHeartbeats 4000000 in
theorem wpSpan (w : World) (x : Rd) (hz : x.lo.size ≤ 140737488355328) : Calls Try.prog 46 #[rdV x] w fun e w' => e = .returned (.tuple #[.string (endsP x).1, .string (endsP x).2.1]) ∧ Below w.heap.size w w' := by
  obtain ⟨tb, kd, lo, hi⟩ := x
  dsimp only at hz
  obtain ⟨W, hW⟩ : ∃ W, w.alloc (.cells #[.string tb, .int .i64 kd, .string lo, .string hi] 31) = W := ⟨_, rfl⟩
  have HW := Lib.hid hW
  have HB := Lib.hid (show Below w.heap.size w W by rw [← hW]; exact below_alloc9 _ _)
  have q := rd_box w ⟨tb, kd, lo, hi⟩
  rw [hW] at q
  have Q := Lib.hid q
  have x1 : W.cell? ⟨w.heap.size, 1, none⟩ = some (.int .i64 kd) := cell_of_row _ _ 1 _ _ _ q
  have x2 : W.cell? ⟨w.heap.size, 2, none⟩ = some (.string lo) := cell_of_row _ _ 2 _ _ _ q
  have x3 : W.cell? ⟨w.heap.size, 3, none⟩ = some (.string hi) := cell_of_row _ _ 3 _ _ _ q
  have f3 : W.frozen? ⟨w.heap.size, 3, none⟩ = false := frozen_of_row _ _ _ _ _ q
  clear q hW
  unfold rdV
  by_cases k1 : kd = 1
  · subst k1
    have HM := Lib.hid (show endsP ⟨tb, 1, lo, hi⟩ = (lo, lo ++ ⟨#[0]⟩, true) from rfl)
    have hs : ¬ 9223372036854775807 < lo.size + 1 := by omega
    obtain ⟨V, hV⟩ : ∃ V, W.setCell ⟨w.heap.size, 3, none⟩ (.string (lo ++ ⟨#[0]⟩)) = V := ⟨_, rfl⟩
    have HV := Lib.hid hV
    have v2 : V.cell? ⟨w.heap.size, 2, none⟩ = some (.string lo) := by rw [← hV]; exact (World.cell?_setCell_other _ _ _ _ (by simp)).trans x2
    have v3 : V.cell? ⟨w.heap.size, 3, none⟩ = some (.string (lo ++ ⟨#[0]⟩)) := by rw [← hV]; exact World.cell?_setCell_same _ _ _ x3
    have BV := Lib.hid (show Below w.heap.size w V by rw [← hV]; exact HB.out.setCell (Nat.le_refl _) _)
    clear hV
    go_enter Try.func46, Try.ntmps46
    go_upto_region 1 with fail
    rw [HW.out]
    go_upto_region 5 with fail
    rw [HV.out]
    clear x1 x2 x3 f3
    go_quiet (fail)
    go_wp2
    refine bodyPost_ret (v := .tuple #[.string lo, .string (lo ++ ⟨#[0]⟩)]) (by simp [results, Try.results46, go_sem]) rfl ⟨by rw [HM.out], below_next BV.out (below_drewN9 _ _)⟩
  · have k1' : (kd == 1) = false := by simpa using k1
    by_cases k2 : kd = 2
    · subst k2
      have HM := Lib.hid (show endsP ⟨tb, 2, lo, hi⟩ = _ by rw [ends_2])
      go_enter Try.func46, Try.ntmps46
      go_upto_region 1 with fail
      rw [HW.out]
      go_upto_region 5 with fail
      go_quiet (fail)
      go_wp2
      refine bodyPost_ret (v := .tuple #[.string lo, .string hi]) (by simp [results, Try.results46, go_sem]) rfl ⟨by rw [HM.out] <;> rfl, below_next HB.out (below_drewN9 _ _)⟩
    · have k2' : (kd == 2) = false := by simpa using k2
      have HM := Lib.hid (show endsP ⟨tb, kd, lo, hi⟩ = (⟨#[]⟩, ⟨#[]⟩, false) by unfold endsP; rw [if_neg k1, if_neg k2])
      clear k1 k2
      go_enter Try.func46, Try.ntmps46
      go_upto_region 6 with fail
      rw [HW.out]
      go_wp2
      refine bodyPost_ret (v := .tuple #[.string ⟨#[]⟩, .string ⟨#[]⟩]) (by simp [results, Try.results46, go_sem]) rfl ⟨by rw [HM.out], HB.out⟩
theorem ends_d (x : Rd) : (endsP x).2.2 = !((endsP x).2.1.toList == []) := by
  unfold endsP
  by_cases h1 : x.kd = 1
  · rw [if_pos h1]
    obtain ⟨l⟩ := x.lo
    simp [ByteArray.toList_eq]
  · rw [if_neg h1]
    by_cases h2 : x.kd = 2
    · rw [if_pos h2]; rfl
    · rw [if_neg h2]; simp [ByteArray.toList_eq]
set_option maxHeartbeats 8000000 in
theorem wpCovers (w : World) (a b : Rd) (ha : a.lo.size ≤ 140737488355328) (hb : b.lo.size ≤ 140737488355328) : Calls Try.prog 18 #[rdV a, rdV b] w fun e w' => e = .returned (.bool (coversP a b)) ∧ Below w.heap.size w w' := by
  obtain ⟨W1, hW1⟩ : ∃ W, w.alloc (.cells #[.string a.tb, .int .i64 a.kd, .string a.lo, .string a.hi] 31) = W := ⟨_, rfl⟩
  obtain ⟨W, hW⟩ : ∃ W, W1.alloc (.cells #[.string b.tb, .int .i64 b.kd, .string b.lo, .string b.hi] 31) = W := ⟨_, rfl⟩
  have HW1 := Lib.hid hW1
  have HW := Lib.hid hW
  have b1 : Below w.heap.size w W1 := by rw [← hW1]; exact below_alloc9 _ _
  have b2 : Below W1.heap.size W1 W := by rw [← hW]; exact below_alloc9 _ _
  have HB := Lib.hid (below_next b1 b2)
  have hz1 : W1.heap.size = w.heap.size + 1 := by rw [← hW1]; simp
  have q1 := rd_box w a
  rw [hW1] at q1
  have q1 := (b2.block _ (by omega)).trans q1
  have q2 := rd_box W1 b
  rw [hW, hz1] at q2
  have Q1 := Lib.hid q1
  have Q2 := Lib.hid q2
  have x0 : W.cell? ⟨w.heap.size, 0, none⟩ = some (.string a.tb) := cell_of_row _ _ 0 _ _ _ q1
  have x1 : W.cell? ⟨w.heap.size, 1, none⟩ = some (.int .i64 a.kd) := cell_of_row _ _ 1 _ _ _ q1
  have x2 : W.cell? ⟨w.heap.size, 2, none⟩ = some (.string a.lo) := cell_of_row _ _ 2 _ _ _ q1
  have x3 : W.cell? ⟨w.heap.size, 3, none⟩ = some (.string a.hi) := cell_of_row _ _ 3 _ _ _ q1
  have y0 : W.cell? ⟨w.heap.size + 1, 0, none⟩ = some (.string b.tb) := cell_of_row _ _ 0 _ _ _ q2
  have y1 : W.cell? ⟨w.heap.size + 1, 1, none⟩ = some (.int .i64 b.kd) := cell_of_row _ _ 1 _ _ _ q2
  have y2 : W.cell? ⟨w.heap.size + 1, 2, none⟩ = some (.string b.lo) := cell_of_row _ _ 2 _ _ _ q2
  have y3 : W.cell? ⟨w.heap.size + 1, 3, none⟩ = some (.string b.hi) := cell_of_row _ _ 3 _ _ _ q2
  have CA := Lib.hid (fun W => wpMay W a)
  have CB := Lib.hid (fun W => wpMay W b)
  have EA := Lib.hid (fun W => wpSpan W a ha)
  have EB := Lib.hid (fun W => wpSpan W b hb)
  have da := ends_d a
  have db := ends_d b
  obtain ⟨ma, hma⟩ : ∃ m, mayP a = m := ⟨_, rfl⟩
  obtain ⟨mb, hmb⟩ : ∃ m, mayP b = m := ⟨_, rfl⟩
  obtain ⟨ea, hea⟩ : ∃ m, endsP a = m := ⟨_, rfl⟩
  obtain ⟨eb, heb⟩ : ∃ m, endsP b = m := ⟨_, rfl⟩
  rw [hma] at CA
  rw [hmb] at CB
  rw [hea] at EA da
  rw [heb] at EB db
  have HC : coversP a b = (ma && mb && (a.tb.toList == b.tb.toList) && !klB eb.1 ea.1 && (!ea.2.2 || (eb.2.2 && !klB ea.2.1 eb.2.1))) := by unfold coversP; rw [hma, hmb, hea, heb]
  obtain ⟨f1, t1, d1⟩ := ea
  obtain ⟨f2, t2, d2⟩ := eb
  dsimp only at HC EA EB da db
  subst da db
  have HC := Lib.hid HC
  unfold rdV at CA CB EA EB
  clear hW1 hW b1 b2 hz1 q1 q2 hma hmb hea heb ha hb
  unfold rdV
  cases ma
  · have HM := Lib.hid (show coversP a b = false by rw [HC.out]; rfl)
    go_enter Try.func18, Try.ntmps18
    go_upto_region 1 with fail
    rw [HW1.out, HW.out]
    go_wp2_with (go_at_call 33; refine (CA.out _).mono ?_; rintro e w3 ⟨rfl, g3⟩; have G3 := Lib.hid (below_next HB.out g3); clear g3 CA)
    go_ret
    exact ⟨by rw [HM.out] <;> rfl, G3.out⟩
  · cases mb
    · have HM := Lib.hid (show coversP a b = false by rw [HC.out]; rfl)
      go_enter Try.func18, Try.ntmps18
      go_upto_region 1 with fail
      rw [HW1.out, HW.out]
      go_wp2_with (first
        | (go_at_call 33; refine (CA.out _).mono ?_; rintro e w3 ⟨rfl, g3⟩; have G3 := Lib.hid (below_next HB.out g3); replace y0 := keep_below y0 g3; replace y1 := keep_below y1 g3; replace y2 := keep_below y2 g3; replace y3 := keep_below y3 g3; clear g3 CA)
        | (go_at_call 33; refine (CB.out _).mono ?_; rintro e w4 ⟨rfl, g4⟩; have G4 := Lib.hid (below_next G3.out g4); clear g4 CB))
      go_ret
      exact ⟨by rw [HM.out] <;> rfl, G4.out⟩
    · cases e0 : (a.tb.toList == b.tb.toList)
      · have HM := Lib.hid (show coversP a b = false by rw [HC.out, e0]; rfl)
        go_enter Try.func18, Try.ntmps18
        go_upto_region 1 with fail
        rw [HW1.out, HW.out]
        go_wp2_with (first
          | (go_at_call 33; refine (CA.out _).mono ?_; rintro e w3 ⟨rfl, g3⟩; have G3 := Lib.hid (below_next HB.out g3); replace x0 := keep_below x0 g3; replace y0 := keep_below y0 g3; replace y1 := keep_below y1 g3; replace y2 := keep_below y2 g3; replace y3 := keep_below y3 g3; clear g3 CA)
          | (go_at_call 33; refine (CB.out _).mono ?_; rintro e w4 ⟨rfl, g4⟩; have G4 := Lib.hid (below_next G3.out g4); replace x0 := keep_below x0 g4; replace y0 := keep_below y0 g4; clear g4 CB))
        go_ret
        exact ⟨by rw [HM.out] <;> rfl, G4.out⟩
      · go_enter Try.func18, Try.ntmps18
        go_upto_region 1 with fail
        rw [HW1.out, HW.out]
        go_upto_region 5 with (first
          | (go_at_call 33; refine (CA.out _).mono ?_; rintro e w3 ⟨rfl, g3⟩; have G3 := Lib.hid (below_next HB.out g3); replace x0 := keep_below x0 g3; replace x1 := keep_below x1 g3; replace x2 := keep_below x2 g3; replace x3 := keep_below x3 g3; replace y0 := keep_below y0 g3; replace y1 := keep_below y1 g3; replace y2 := keep_below y2 g3; replace y3 := keep_below y3 g3; clear g3 CA)
          | (go_at_call 33; refine (CB.out _).mono ?_; rintro e w4 ⟨rfl, g4⟩; have G4 := Lib.hid (below_next G3.out g4); replace x0 := keep_below x0 g4; replace x1 := keep_below x1 g4; replace x2 := keep_below x2 g4; replace x3 := keep_below x3 g4; replace y0 := keep_below y0 g4; replace y1 := keep_below y1 g4; replace y2 := keep_below y2 g4; replace y3 := keep_below y3 g4; clear g4 CB)
          | (go_at_call 46; refine (EA.out _).mono ?_; rintro e w5 ⟨rfl, g5⟩; have G5 := Lib.hid (below_next G4.out g5); replace y0 := keep_below y0 g5; replace y1 := keep_below y1 g5; replace y2 := keep_below y2 g5; replace y3 := keep_below y3 g5; clear g5 EA)
          | (go_at_call 46; refine (EB.out _).mono ?_; rintro e w6 ⟨rfl, g6⟩; have G6 := Lib.hid (below_next G5.out g6); clear g6 EB))
        clear x0 x1 x2 x3 y0 y1 y2 y3 Q1 Q2
        cases c1 : Op.bytesLess f1.toList f2.toList <;> cases c4 : (f1.toList == f2.toList) <;> cases d1 : (t1.toList == []) <;> cases d2 : (t2.toList == []) <;> cases c2 : Op.bytesLess t2.toList t1.toList <;> cases c3 : (t2.toList == t1.toList)
        all_goals
          have HM := Lib.hid (show coversP a b = _ by rw [HC.out, e0, bl_le8 f1 f2, c1, c4, d1, d2, bl_le8 t2 t1, c2, c3])
          go_wp2
          go_ret
          exact ⟨by rw [HM.out] <;> rfl, G6.out⟩
end Go.Proofs.Ytcpifanhmkblmaa
