/- The call takeMark; next, there, newer, place. -/
import Derived.Test.YthpbcibjohakkaaLRead
namespace Go.Proofs.Ythpbcibjohakkaa
set_option maxRecDepth 100000
set_option maxRecDepth 100000
open Go.RowKit

def MkRet (w : World) (m : Mk) (e : Ending) (w' : World) : Prop :=
  e = .returned (.agg #[.int .i64 (m.turn : Int), .int .i64 (m.area : Int), .int .u64 (m.since : Int)]) ∧ Below w.heap.size w w'
theorem title_yes : (strOfNums titleL).toList = [107, 101, 121, 115, 116, 111, 110, 101, 32, 108, 111, 103] := by rw [ByteArray.toList_eq]; rfl
theorem title_no (l : List Int) (hb : ∀ z ∈ l, 0 ≤ z ∧ z ≤ 255) (h : l ≠ titleL) : ¬ (strOfNums l).toList = [107, 101, 121, 115, 116, 111, 110, 101, 32, 108, 111, 103] := by
  intro e
  apply h
  have h1 := strB_nums l hb
  have e2 : (strOfNums l).data.toList = [107, 101, 121, 115, 116, 111, 110, 101, 32, 108, 111, 103] := by
    have h3 : (strOfNums l).toList = (strOfNums l).data.toList := ByteArray.toList_eq _
    rw [← h3]; exact e
  unfold strB at h1
  rw [e2] at h1
  rw [← h1]
  rfl
theorem takeText_byte (zs : List Int) (hz : ∀ z ∈ zs, 0 ≤ z ∧ z ≤ 255) (at_ most : Int) : ∀ z ∈ (takeText zs at_ most).1, 0 ≤ z ∧ z ≤ 255 := by
  obtain ⟨l, s, x, h⟩ : ∃ l s x, takeText zs at_ most = (l, s, x) := ⟨_, _, _, rfl⟩
  rw [h]
  by_cases hx : x = 0
  · subst hx
    obtain ⟨u, k, _, _, _, rfl⟩ := takeText_ok h
    exact fun z hm => hz z (List.mem_of_mem_drop (List.mem_of_mem_take hm))
  · unfold takeText at h
    split at h
    · cases h; simp
    · split at h
      · split at h
        · cases h; simp
        · split at h
          · cases h; simp
          · cases h; exact absurd rfl hx
      · cases h; simp

set_option maxHeartbeats 4000000 in
theorem wtakeMark (w : World) (A : Option Addr) (n c : Nat) (zs : List Int) (hr : RB w A n zs) (hn : n ≤ c) (hc : n ≤ 1048576 ∧ c ≤ 9223372036854775807) (size : Nat) (hsz : size ≤ 16384) :
    Calls Try.prog 50 #[.slice A n c, .int .i64 (size : Int)] w (MkRet w (takeMark zs size)) := by
  obtain ⟨W2, hW2⟩ : ∃ W, ((w.alloc (.cells #[.int .i64 0, .int .i64 0, .int .u64 0] 76)).alloc (.cells #[.slice A n c, .bool false] 106)) = W := ⟨_, rfl⟩
  have Q0 := Lib.hid (show W2.heap[w.heap.size]? = some (.cells #[.int .i64 0, .int .i64 0, .int .u64 0] 76 (0, 0)) by rw [← hW2]; exact heap_alloc2_old _ _ _)
  have q1 : W2.heap[w.heap.size + 1]? = some (.cells #[.slice A n c, .bool false] 106 (0, 0)) := by rw [← hW2]; exact heap_alloc2_new _ _ _
  have HB2 := Lib.hid (show Below w.heap.size w W2 by rw [← hW2]; exact ((Below.refl _ _).alloc (Nat.le_refl _) _).alloc (by simp) _)
  have R2 := Lib.hid (show RdAt W2 (w.heap.size + 1) w.heap.size ⟨zs, false⟩ from ⟨A, n, c, q1, hr.below' HB2.out, hn, hc, fun ad e h0 => rb_lt hr ad e h0, by omega⟩)
  have HBY := Lib.hid hr.byte
  obtain ⟨l, r1, h1⟩ : ∃ l r1, rdText ⟨zs, false⟩ = (l, r1) := ⟨_, _, rfl⟩
  obtain ⟨a, r2, h2⟩ : ∃ a r2, rdNum 16384 r1 = (a, r2) := ⟨_, _, rfl⟩
  obtain ⟨b, r3, h3⟩ : ∃ b r3, rdNum 2 r2 = (b, r3) := ⟨_, _, rfl⟩
  obtain ⟨d, r4, h4⟩ : ∃ d r4, rdNum 1 r3 = (d, r4) := ⟨_, _, rfl⟩
  obtain ⟨g, r5, h5⟩ : ∃ g r5, rdNum maxSt r4 = (g, r5) := ⟨_, _, rfl⟩
  have hbi : (b : Int) ≤ 2 := by have := rdNum_le 2 r2; rw [h3] at this; simp only at this; omega
  have hdi : (d : Int) ≤ 1 := by have := rdNum_le 1 r3; rw [h4] at this; simp only at this; omega
  have hszi : (size : Int) ≤ 16384 := by omega
  have HL := Lib.hid (show ∀ z ∈ l, 0 ≤ z ∧ z ≤ 255 by
    have := takeText_byte zs HBY.out 0 64
    unfold rdText at h1
    split at h1
    · cases h1; simp
    · cases h1; exact this)
  have HTM := Lib.hid (show takeMark zs size = if l ≠ titleL then Mk.no else if a ≠ size then Mk.no else if r5.bad = true then Mk.no else ⟨b, d, g⟩ by unfold takeMark; simp only [h1, h2, h3, h4, h5])
  have CT := Lib.hid (show Calls Try.prog 64 #[.pointer (some ⟨w.heap.size + 1, 0, none⟩)] W2 fun e w2 => e = .returned (.string (strOfNums l)) ∧ RdAt w2 (w.heap.size + 1) w.heap.size r1 ∧ Out (fun k => k = w.heap.size + 1) W2 w2 by have := wtext_ W2 _ _ _ R2.out; rw [h1] at this; exact this)
  have C1 := Lib.hid (show ∀ w', RdAt w' (w.heap.size + 1) w.heap.size r1 → Calls Try.prog 65 #[.pointer (some ⟨w.heap.size + 1, 0, none⟩), .int .u64 16384] w' fun e w2 => e = .returned (.int .u64 (a : Int)) ∧ RdAt w2 (w.heap.size + 1) w.heap.size r2 ∧ Out (fun k => k = w.heap.size + 1) w' w2 from fun w' h => by have := wnumberI w' _ _ _ h 16384 16384 rfl (by decide); rw [h2] at this; exact this)
  have C2 := Lib.hid (show ∀ w', RdAt w' (w.heap.size + 1) w.heap.size r2 → Calls Try.prog 65 #[.pointer (some ⟨w.heap.size + 1, 0, none⟩), .int .u64 2] w' fun e w2 => e = .returned (.int .u64 (b : Int)) ∧ RdAt w2 (w.heap.size + 1) w.heap.size r3 ∧ Out (fun k => k = w.heap.size + 1) w' w2 from fun w' h => by have := wnumberI w' _ _ _ h 2 2 rfl (by decide); rw [h3] at this; exact this)
  have C3 := Lib.hid (show ∀ w', RdAt w' (w.heap.size + 1) w.heap.size r3 → Calls Try.prog 65 #[.pointer (some ⟨w.heap.size + 1, 0, none⟩), .int .u64 1] w' fun e w2 => e = .returned (.int .u64 (d : Int)) ∧ RdAt w2 (w.heap.size + 1) w.heap.size r4 ∧ Out (fun k => k = w.heap.size + 1) w' w2 from fun w' h => by have := wnumberI w' _ _ _ h 1 1 rfl (by decide); rw [h4] at this; exact this)
  have C4 := Lib.hid (show ∀ w', RdAt w' (w.heap.size + 1) w.heap.size r4 → Calls Try.prog 65 #[.pointer (some ⟨w.heap.size + 1, 0, none⟩), .int .u64 9223372036854775807] w' fun e w2 => e = .returned (.int .u64 (g : Int)) ∧ RdAt w2 (w.heap.size + 1) w.heap.size r5 ∧ Out (fun k => k = w.heap.size + 1) w' w2 from fun w' h => by have := wnumberI w' _ _ _ h 9223372036854775807 maxSt rfl (by decide); rw [h5] at this; exact this)
  have HW2 := Lib.hid hW2
  clear h1 h2 h3 h4 h5 hr q1 hW2
  go_enter Try.func50, Try.ntmps50
  go_upto_region 2 with fail
  rw [HW2.out]
  clear HW2
  by_cases ht : l = titleL
  · have hT1 : (strOfNums l).toList = [107, 101, 121, 115, 116, 111, 110, 101, 32, 108, 111, 103] := by rw [ht]; exact title_yes
    have hT : ((strOfNums l).toList == [107, 101, 121, 115, 116, 111, 110, 101, 32, 108, 111, 103]) = true := by rw [hT1]; rfl
    have HT := Lib.hid ht
    clear ht
    by_cases ha : a = size
    · have hA1 : ((a : Int) != (size : Int)) = false := by simp [ha]
      have hA2 : (a != size) = false := by simp [ha]
      have HA := Lib.hid ha
      clear ha
      go_upto_region 5 with (first
        | (go_at_call 64; go_loud (refine CT.out.mono ?_; rintro e w3 ⟨rfl, r3', o3⟩; have R3 := Lib.hid r3'; have O3 := Lib.hid o3; clear r3' o3 CT))
        | (go_at_call 65; go_loud (refine (C1.out w3 R3.out).mono ?_; rintro e w4 ⟨rfl, r4', o4⟩; have R4 := Lib.hid r4'; have O4 := Lib.hid (O3.out.then o4); clear r4' o4 C1)))
      obtain ⟨W5, hW5⟩ : ∃ W, w4.alloc (.cells #[.int .i64 0, .int .i64 0, .int .u64 0] 76) = W := ⟨_, rfl⟩
      obtain ⟨M, hM⟩ : ∃ M, M = w4.heap.size := ⟨_, rfl⟩
      have hM2 : w.heap.size + 1 < M := by have := O4.out.size; have h9 := (Array.getElem?_eq_some_iff.1 (show W2.heap[w.heap.size + 1]? = _ from R2.out.ex.choose_spec.choose_spec.choose_spec.1)).1; omega
      rw [hW5, ← hM]
      have Q5 := Lib.hid (show W5.heap[M]? = some (.cells #[.int .i64 0, .int .i64 0, .int .u64 0] 76 (0, 0)) by rw [← hW5, hM]; exact heap_alloc_new _ _)
      have O5 := Lib.hid (show Out (fun k => k = w.heap.size + 1) W2 W5 by rw [← hW5]; exact O4.out.alloc _)
      have R5 := Lib.hid (show RdAt W5 (w.heap.size + 1) w.heap.size r2 from R4.out.stays fun k hk => by rw [← hW5]; exact Below.heap_alloc _ _ _ (by omega))
      have HM2 := Lib.hid hM2
      have HMS := Lib.hid (show W2.heap.size ≤ M by rw [hM]; exact O4.out.size)
      clear hW5 hM hM2
      go_upto_region 6 with (go_at_call_of 65 (Value.int .u64 2); go_loud (refine (C2.out W5 R5.out).mono ?_; rintro e w6 ⟨rfl, r6, o6⟩; have R6 := Lib.hid r6; have O6 := Lib.hid (O5.out.then o6); have Q6 := Lib.hid ((o6.block M (Array.getElem?_eq_some_iff.1 Q5.out).1 (by have := HM2.out; omega)).trans Q5.out); have k0 := cell_of_row w6 _ 0 _ _ _ Q6.out; have f0 := frozen_of_row w6 _ 0 _ _ Q6.out; clear r6 o6 C2))
      obtain ⟨W7, hW7⟩ : ∃ W, w6.setCell ⟨M, 0, none⟩ (.int .i64 (b : Int)) = W := ⟨_, rfl⟩
      rw [hW7]
      have R7 := Lib.hid (show RdAt W7 (w.heap.size + 1) w.heap.size r3 from R6.out.stays fun k hk => by rw [← hW7]; exact heap_setCell_ne _ _ _ _ k (by have := HM2.out; omega))
      have O7 := Lib.hid (show Out (fun k => k = w.heap.size + 1) W2 W7 by rw [← hW7]; exact O6.out.setCell (p := ⟨M, 0, none⟩) (.inr HMS.out) _)
      have Q7 := Lib.hid (show W7.heap[M]? = some (.cells #[.int .i64 (b : Int), .int .i64 0, .int .u64 0] 76 (0, 0)) by rw [← hW7, blk_set Q6.out]; rfl)
      clear hW7 k0 f0
      go_upto_region 7 with (go_at_call_of 65 (Value.int .u64 1); go_loud (refine (C3.out W7 R7.out).mono ?_; rintro e w8 ⟨rfl, r8, o8⟩; have R8 := Lib.hid r8; have O8 := Lib.hid (O7.out.then o8); have Q8 := Lib.hid ((o8.block M (Array.getElem?_eq_some_iff.1 Q7.out).1 (by have := HM2.out; omega)).trans Q7.out); have k1 := cell_of_row w8 _ 1 _ _ _ Q8.out; have f1 := frozen_of_row w8 _ 1 _ _ Q8.out; clear r8 o8 C3))
      obtain ⟨W9, hW9⟩ : ∃ W, w8.setCell ⟨M, 1, none⟩ (.int .i64 (d : Int)) = W := ⟨_, rfl⟩
      rw [hW9]
      have R9 := Lib.hid (show RdAt W9 (w.heap.size + 1) w.heap.size r4 from R8.out.stays fun k hk => by rw [← hW9]; exact heap_setCell_ne _ _ _ _ k (by have := HM2.out; omega))
      have O9 := Lib.hid (show Out (fun k => k = w.heap.size + 1) W2 W9 by rw [← hW9]; exact O8.out.setCell (p := ⟨M, 1, none⟩) (.inr HMS.out) _)
      have Q9 := Lib.hid (show W9.heap[M]? = some (.cells #[.int .i64 (b : Int), .int .i64 (d : Int), .int .u64 0] 76 (0, 0)) by rw [← hW9, blk_set Q8.out]; rfl)
      clear hW9 k1 f1
      go_upto_region 8 with (go_at_call_of 65 (Value.int .u64 9223372036854775807); go_loud (refine (C4.out W9 R9.out).mono ?_; rintro e w10 ⟨rfl, r10, o10⟩; have R10 := Lib.hid r10; have O10 := Lib.hid (O9.out.then o10); have Q10 := Lib.hid ((o10.block M (Array.getElem?_eq_some_iff.1 Q9.out).1 (by have := HM2.out; omega)).trans Q9.out); have k2 := cell_of_row w10 _ 2 _ _ _ Q10.out; have f2 := frozen_of_row w10 _ 2 _ _ Q10.out; clear r10 o10 C4))
      obtain ⟨WA, hWA⟩ : ∃ W, w10.setCell ⟨M, 2, none⟩ (.int .u64 (g : Int)) = W := ⟨_, rfl⟩
      rw [hWA]
      have RA := Lib.hid (show RdAt WA (w.heap.size + 1) w.heap.size r5 from R10.out.stays fun k hk => by rw [← hWA]; exact heap_setCell_ne _ _ _ _ k (by have := HM2.out; omega))
      have OA := Lib.hid (show Out (fun k => k = w.heap.size + 1) W2 WA by rw [← hWA]; exact O10.out.setCell (p := ⟨M, 2, none⟩) (.inr HMS.out) _)
      have QA := Lib.hid (show WA.heap[M]? = some (.cells #[.int .i64 (b : Int), .int .i64 (d : Int), .int .u64 (g : Int)] 76 (0, 0)) by rw [← hWA, blk_set Q10.out]; rfl)
      clear hWA k2 f2
      obtain ⟨A9, n9, c9, hb9, -⟩ := RA.out.ex
      have u1 := cell_of_row WA _ 1 _ _ _ hb9
      have t0 := cell_of_row WA _ 0 _ _ _ QA.out
      have t1 := cell_of_row WA _ 1 _ _ _ QA.out
      have t2 := cell_of_row WA _ 2 _ _ _ QA.out
      have BF := Lib.hid (show Below w.heap.size w WA from HB2.out.trans (OA.out.below HB2.out.size fun i hi hf => by omega))
      have QZ := Lib.hid ((OA.out.block w.heap.size (Array.getElem?_eq_some_iff.1 Q0.out).1 (by omega)).trans Q0.out)
      clear hb9
      by_cases hbad : r5.bad = true
      · have HBAD := Lib.hid hbad
        rw [hbad] at u1
        clear hbad
        have y0 := cell_of_row WA _ 0 _ _ _ QZ.out
        have x0 := frozen_of_row WA _ 0 _ _ QZ.out
        have y1 := cell_of_row WA _ 1 _ _ _ QZ.out
        have x1 := frozen_of_row WA _ 1 _ _ QZ.out
        have y2 := cell_of_row WA _ 2 _ _ _ QZ.out
        have x2 := frozen_of_row WA _ 2 _ _ QZ.out
        obtain ⟨W11, hW11⟩ : ∃ W, (((WA.setCell ⟨w.heap.size, 0, none⟩ (.int .i64 0)).setCell ⟨w.heap.size, 1, none⟩ (.int .i64 0)).setCell ⟨w.heap.size, 2, none⟩ (.int .u64 0)) = W := ⟨_, rfl⟩
        have q8 : W11.heap[w.heap.size]? = some (.cells #[.int .i64 0, .int .i64 0, .int .u64 0] 76 (0, 0)) := by
          rw [← hW11, blk_set (blk_set (blk_set QZ.out 0 _) 1 _) 2 _]
          rfl
        have g0 : W11.cell? ⟨w.heap.size, 0, none⟩ = some (.int .i64 0) := by rw [cell_of_row _ _ _ _ _ _ q8]; rfl
        have g1 : W11.cell? ⟨w.heap.size, 1, none⟩ = some (.int .i64 0) := by rw [cell_of_row _ _ _ _ _ _ q8]; rfl
        have g2 : W11.cell? ⟨w.heap.size, 2, none⟩ = some (.int .u64 0) := by rw [cell_of_row _ _ _ _ _ _ q8]; rfl
        have B8 := Lib.hid (show Below w.heap.size w W11 by
          rw [← hW11]
          exact ((BF.out.setCell (p := ⟨w.heap.size, 0, none⟩) (Nat.le_refl _) _).setCell (p := ⟨w.heap.size, 1, none⟩) (Nat.le_refl _) _).setCell (p := ⟨w.heap.size, 2, none⟩) (Nat.le_refl _) _)
        clear q8
        go_wp2
        refine bodyPost_ret (v := .agg #[.int .i64 0, .int .i64 0, .int .u64 0]) (by simp [results, Try.results50, go_sem, g0, g1, g2]) rfl ?_
        exact ⟨by rw [HTM.out, if_neg (not_not_intro HT.out), if_neg (not_not_intro HA.out), if_pos HBAD.out]; rfl, B8.out⟩
      · have HBAD := Lib.hid hbad
        have hb2 : r5.bad = false := by simpa using hbad
        rw [hb2] at u1
        clear hbad hb2
        have y0 := cell_of_row WA _ 0 _ _ _ QZ.out
        have x0 := frozen_of_row WA _ 0 _ _ QZ.out
        have y1 := cell_of_row WA _ 1 _ _ _ QZ.out
        have x1 := frozen_of_row WA _ 1 _ _ QZ.out
        have y2 := cell_of_row WA _ 2 _ _ _ QZ.out
        have x2 := frozen_of_row WA _ 2 _ _ QZ.out
        obtain ⟨W11, hW11⟩ : ∃ W, (((WA.setCell ⟨w.heap.size, 0, none⟩ (.int .i64 (b : Int))).setCell ⟨w.heap.size, 1, none⟩ (.int .i64 (d : Int))).setCell ⟨w.heap.size, 2, none⟩ (.int .u64 (g : Int))) = W := ⟨_, rfl⟩
        have q8 : W11.heap[w.heap.size]? = some (.cells #[.int .i64 (b : Int), .int .i64 (d : Int), .int .u64 (g : Int)] 76 (0, 0)) := by
          rw [← hW11, blk_set (blk_set (blk_set QZ.out 0 _) 1 _) 2 _]
          rfl
        have g0 : W11.cell? ⟨w.heap.size, 0, none⟩ = some (.int .i64 (b : Int)) := by rw [cell_of_row _ _ _ _ _ _ q8]; rfl
        have g1 : W11.cell? ⟨w.heap.size, 1, none⟩ = some (.int .i64 (d : Int)) := by rw [cell_of_row _ _ _ _ _ _ q8]; rfl
        have g2 : W11.cell? ⟨w.heap.size, 2, none⟩ = some (.int .u64 (g : Int)) := by rw [cell_of_row _ _ _ _ _ _ q8]; rfl
        have B8 := Lib.hid (show Below w.heap.size w W11 by
          rw [← hW11]
          exact ((BF.out.setCell (p := ⟨w.heap.size, 0, none⟩) (Nat.le_refl _) _).setCell (p := ⟨w.heap.size, 1, none⟩) (Nat.le_refl _) _).setCell (p := ⟨w.heap.size, 2, none⟩) (Nat.le_refl _) _)
        clear q8
        go_wp2
        refine bodyPost_ret (v := .agg #[.int .i64 (b : Int), .int .i64 (d : Int), .int .u64 (g : Int)]) (by simp [results, Try.results50, go_sem, g0, g1, g2]) rfl ?_
        exact ⟨by rw [HTM.out, if_neg (not_not_intro HT.out), if_neg (not_not_intro HA.out), if_neg HBAD.out], B8.out⟩
    · have hA1 : ((a : Int) != (size : Int)) = true := by simp; omega
      have hA2 : (a != size) = true := by simpa using ha
      have HA := Lib.hid ha
      clear ha
      go_upto_region 3 with (first
        | (go_at_call 64; go_loud (refine CT.out.mono ?_; rintro e w3 ⟨rfl, r3', o3⟩; have R3 := Lib.hid r3'; have O3 := Lib.hid o3; clear r3' o3 CT))
        | (go_at_call 65; go_loud (refine (C1.out w3 R3.out).mono ?_; rintro e w4 ⟨rfl, r4', o4⟩; have R4 := Lib.hid r4'; have O4 := Lib.hid (O3.out.then o4); clear r4' o4 C1)))
      have BF := Lib.hid (show Below w.heap.size w w4 from HB2.out.trans (O4.out.below HB2.out.size fun i hi hf => by omega))
      have QZ := Lib.hid ((O4.out.block w.heap.size (Array.getElem?_eq_some_iff.1 Q0.out).1 (by omega)).trans Q0.out)
      have y0 := cell_of_row w4 _ 0 _ _ _ QZ.out
      have x0 := frozen_of_row w4 _ 0 _ _ QZ.out
      have y1 := cell_of_row w4 _ 1 _ _ _ QZ.out
      have x1 := frozen_of_row w4 _ 1 _ _ QZ.out
      have y2 := cell_of_row w4 _ 2 _ _ _ QZ.out
      have x2 := frozen_of_row w4 _ 2 _ _ QZ.out
      obtain ⟨W11, hW11⟩ : ∃ W, (((w4.setCell ⟨w.heap.size, 0, none⟩ (.int .i64 0)).setCell ⟨w.heap.size, 1, none⟩ (.int .i64 0)).setCell ⟨w.heap.size, 2, none⟩ (.int .u64 0)) = W := ⟨_, rfl⟩
      have q8 : W11.heap[w.heap.size]? = some (.cells #[.int .i64 0, .int .i64 0, .int .u64 0] 76 (0, 0)) := by
        rw [← hW11, blk_set (blk_set (blk_set QZ.out 0 _) 1 _) 2 _]
        rfl
      have g0 : W11.cell? ⟨w.heap.size, 0, none⟩ = some (.int .i64 0) := by rw [cell_of_row _ _ _ _ _ _ q8]; rfl
      have g1 : W11.cell? ⟨w.heap.size, 1, none⟩ = some (.int .i64 0) := by rw [cell_of_row _ _ _ _ _ _ q8]; rfl
      have g2 : W11.cell? ⟨w.heap.size, 2, none⟩ = some (.int .u64 0) := by rw [cell_of_row _ _ _ _ _ _ q8]; rfl
      have B8 := Lib.hid (show Below w.heap.size w W11 by
        rw [← hW11]
        exact ((BF.out.setCell (p := ⟨w.heap.size, 0, none⟩) (Nat.le_refl _) _).setCell (p := ⟨w.heap.size, 1, none⟩) (Nat.le_refl _) _).setCell (p := ⟨w.heap.size, 2, none⟩) (Nat.le_refl _) _)
      clear q8
      go_wp2
      refine bodyPost_ret (v := .agg #[.int .i64 0, .int .i64 0, .int .u64 0]) (by simp [results, Try.results50, go_sem, g0, g1, g2]) rfl ?_
      exact ⟨by rw [HTM.out, if_neg (not_not_intro HT.out), if_pos HA.out]; rfl, B8.out⟩
  · have hT1 : ¬ (strOfNums l).toList = [107, 101, 121, 115, 116, 111, 110, 101, 32, 108, 111, 103] := title_no l HL.out ht
    have hT : ((strOfNums l).toList == [107, 101, 121, 115, 116, 111, 110, 101, 32, 108, 111, 103]) = false := by simpa using hT1
    have HT := Lib.hid ht
    clear ht
    go_upto_region 3 with (first
      | (go_at_call 64; go_loud (refine CT.out.mono ?_; rintro e w3 ⟨rfl, r3', o3⟩; have R3 := Lib.hid r3'; have O3 := Lib.hid o3; clear r3' o3 CT)))
    have BF := Lib.hid (show Below w.heap.size w w3 from HB2.out.trans (O3.out.below HB2.out.size fun i hi hf => by omega))
    have QZ := Lib.hid ((O3.out.block w.heap.size (Array.getElem?_eq_some_iff.1 Q0.out).1 (by omega)).trans Q0.out)
    have y0 := cell_of_row w3 _ 0 _ _ _ QZ.out
    have x0 := frozen_of_row w3 _ 0 _ _ QZ.out
    have y1 := cell_of_row w3 _ 1 _ _ _ QZ.out
    have x1 := frozen_of_row w3 _ 1 _ _ QZ.out
    have y2 := cell_of_row w3 _ 2 _ _ _ QZ.out
    have x2 := frozen_of_row w3 _ 2 _ _ QZ.out
    obtain ⟨W11, hW11⟩ : ∃ W, (((w3.setCell ⟨w.heap.size, 0, none⟩ (.int .i64 0)).setCell ⟨w.heap.size, 1, none⟩ (.int .i64 0)).setCell ⟨w.heap.size, 2, none⟩ (.int .u64 0)) = W := ⟨_, rfl⟩
    have q8 : W11.heap[w.heap.size]? = some (.cells #[.int .i64 0, .int .i64 0, .int .u64 0] 76 (0, 0)) := by
      rw [← hW11, blk_set (blk_set (blk_set QZ.out 0 _) 1 _) 2 _]
      rfl
    have g0 : W11.cell? ⟨w.heap.size, 0, none⟩ = some (.int .i64 0) := by rw [cell_of_row _ _ _ _ _ _ q8]; rfl
    have g1 : W11.cell? ⟨w.heap.size, 1, none⟩ = some (.int .i64 0) := by rw [cell_of_row _ _ _ _ _ _ q8]; rfl
    have g2 : W11.cell? ⟨w.heap.size, 2, none⟩ = some (.int .u64 0) := by rw [cell_of_row _ _ _ _ _ _ q8]; rfl
    have B8 := Lib.hid (show Below w.heap.size w W11 by
      rw [← hW11]
      exact ((BF.out.setCell (p := ⟨w.heap.size, 0, none⟩) (Nat.le_refl _) _).setCell (p := ⟨w.heap.size, 1, none⟩) (Nat.le_refl _) _).setCell (p := ⟨w.heap.size, 2, none⟩) (Nat.le_refl _) _)
    clear q8
    go_wp2
    refine bodyPost_ret (v := .agg #[.int .i64 0, .int .i64 0, .int .u64 0]) (by simp [results, Try.results50, go_sem, g0, g1, g2]) rfl ?_
    exact ⟨by rw [HTM.out, if_pos HT.out]; rfl, B8.out⟩
end Go.Proofs.Ythpbcibjohakkaa
