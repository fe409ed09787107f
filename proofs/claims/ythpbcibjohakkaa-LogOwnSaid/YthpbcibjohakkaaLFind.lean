/- The call find. -/
import Derived.Test.YthpbcibjohakkaaLMark
import Derived.Test.YthpbcibjohakkaaLNewer
import Derived.Test.YthpbcibjohakkaaJAT
namespace Go.Proofs.Ythpbcibjohakkaa
set_option maxRecDepth 100000
set_option maxRecDepth 100000
open Go.RowKit

/-- A log's cells. -/
def lgC (d size slot : Nat) (m : Mk) (stamp used count : Nat) (over : Bool) : Array Value :=
  #[.pointer (some ⟨d, 0, none⟩), .int .i64 (size : Int), .int .i64 (slot : Int), .int .i64 (m.turn : Int), .int .i64 (m.area : Int), .int .u64 (m.since : Int), .int .u64 (stamp : Int), .int .i64 (used : Int), .int .i64 (count : Int), .bool over]
def LgAt (w : World) (L d size slot : Nat) (m : Mk) (stamp used count : Nat) (over : Bool) : Prop := w.heap[L]? = some (.cells (lgC d size slot m stamp used count over) 78 (0, 0))
section
variable {w : World} {L d size slot : Nat} {m : Mk} {stamp used count : Nat} {over : Bool}
theorem LgAt.c0 (h : LgAt w L d size slot m stamp used count over) : w.cell? ⟨L, 0, none⟩ = some (.pointer (some ⟨d, 0, none⟩)) := cell_of_row _ _ 0 _ _ _ h
theorem LgAt.c1 (h : LgAt w L d size slot m stamp used count over) : w.cell? ⟨L, 1, none⟩ = some (.int .i64 (size : Int)) := cell_of_row _ _ 1 _ _ _ h
theorem LgAt.c2 (h : LgAt w L d size slot m stamp used count over) : w.cell? ⟨L, 2, none⟩ = some (.int .i64 (slot : Int)) := cell_of_row _ _ 2 _ _ _ h
theorem LgAt.c3 (h : LgAt w L d size slot m stamp used count over) : w.cell? ⟨L, 3, none⟩ = some (.int .i64 (m.turn : Int)) := cell_of_row _ _ 3 _ _ _ h
theorem LgAt.c4 (h : LgAt w L d size slot m stamp used count over) : w.cell? ⟨L, 4, none⟩ = some (.int .i64 (m.area : Int)) := cell_of_row _ _ 4 _ _ _ h
theorem LgAt.c5 (h : LgAt w L d size slot m stamp used count over) : w.cell? ⟨L, 5, none⟩ = some (.int .u64 (m.since : Int)) := cell_of_row _ _ 5 _ _ _ h
theorem LgAt.c6 (h : LgAt w L d size slot m stamp used count over) : w.cell? ⟨L, 6, none⟩ = some (.int .u64 (stamp : Int)) := cell_of_row _ _ 6 _ _ _ h
theorem LgAt.c7 (h : LgAt w L d size slot m stamp used count over) : w.cell? ⟨L, 7, none⟩ = some (.int .i64 (used : Int)) := cell_of_row _ _ 7 _ _ _ h
theorem LgAt.c8 (h : LgAt w L d size slot m stamp used count over) : w.cell? ⟨L, 8, none⟩ = some (.int .i64 (count : Int)) := cell_of_row _ _ 8 _ _ _ h
theorem LgAt.c9 (h : LgAt w L d size slot m stamp used count over) : w.cell? ⟨L, 9, none⟩ = some (.bool over) := cell_of_row _ _ 9 _ _ _ h
theorem LgAt.f (h : LgAt w L d size slot m stamp used count over) (j : Nat) : w.frozen? ⟨L, j, none⟩ = false := frozen_of_row _ _ _ _ _ h
theorem LgAt.lt (h : LgAt w L d size slot m stamp used count over) : L < w.heap.size := (Array.getElem?_eq_some_iff.1 h).1
end
def FindIs (w : World) (d : Nat) (S : St) (e : Ending) (w' : World) : Prop :=
  ∃ L, e = .returned (.tuple #[.pointer (some ⟨L, 0, none⟩), .int .i64 0]) ∧ LgAt w' L d (areaSize S.last.length) (findM S.last).1 (findM S.last).2 0 0 0 false ∧ w.heap.size ≤ L ∧ Below w.heap.size w w'

theorem find_small {F : Nat → Prop} {w : World} {d : Nat} {S : St} (h : PD F w d S) (hn : S.last.length < 6) :
    Calls Try.prog 36 #[.pointer (some ⟨d, 0, none⟩)] w fun e w' => e = .returned (.tuple #[.pointer none, .int .i64 1]) ∧ w = w' := by
  have CB := Lib.hid (pblocks h)
  have hlo := h.wf.lo
  have h1 : ((S.last.length : Int) == 0) = false := by rw [beq_eq_false_iff_ne]; omega
  have h2 : (S.last.length : Int) < 6 := by omega
  have h3 : (S.last.length == 0) = false := by rw [beq_eq_false_iff_ne]; omega
  clear h hlo
  obtain ⟨n, hnn⟩ : ∃ n, n = S.last.length := ⟨_, rfl⟩
  rw [← hnn] at CB h1 h2 h3
  clear hnn hn
  go_enter Try.func36, Try.ntmps36
  go_wp2_with (go_at_call 17; refine CB.out.mono ?_; rintro e w' ⟨rfl, rfl⟩)
  go_ret2
  exact ⟨rfl, rfl⟩

set_option maxHeartbeats 2000000 in
theorem wfind {F : Nat → Prop} {w : World} {d : Nat} {S : St} (h : PD F w d S) (ho : S.off = false) (hp : S.pend = []) (hn : 6 ≤ S.last.length) :
    Calls Try.prog 36 #[.pointer (some ⟨d, 0, none⟩)] w (FindIs w d S) := by
  have CB := Lib.hid (pblocks h)
  have HD := Lib.hid h
  have HO := Lib.hid ho
  have HP := Lib.hid hp
  have HN := Lib.hid hn
  have HWF := Lib.hid h.wf
  obtain ⟨n, hnn⟩ : ∃ n, n = S.last.length := ⟨_, rfl⟩
  obtain ⟨z, hz⟩ : ∃ z, z = areaSize n := ⟨_, rfl⟩
  have HNN := Lib.hid hnn
  have HZ := Lib.hid hz
  have hn16 : n ≤ 16384 := by rw [hnn]; exact h.wf.hi
  have hn6 : 6 ≤ n := by rw [hnn]; exact hn
  have h1 : ((n : Int) == 0) = false := by simp; omega
  have h3 : (n == 0) = false := by simp; omega
  have h2 : decide ((n : Int) < 6) = false := by simp; omega
  have hq : ((n : Int) - 2) / 2 = (z : Int) := by rw [hz]; unfold areaSize; omega
  have hq0 : (0 : Int) ≤ (n : Int) - 2 := by omega
  have HZ16 := Lib.hid (show z ≤ 16384 by rw [hz]; unfold areaSize; omega)
  rw [← hnn] at CB
  clear h ho hp hn hnn hz
  go_enter Try.func36, Try.ntmps36
  go_upto_region 7 with (go_at_call 17; refine CB.out.mono ?_; rintro e w' ⟨rfl, rfl⟩)
  obtain ⟨W0, hW0⟩ : ∃ W, W = w.alloc (.cells (lgC d z 0 Mk.no 0 0 0 false) 78) := ⟨_, rfl⟩
  have HB0 := Lib.hid (show Below w.heap.size w W0 by rw [hW0]; exact (Below.refl _ _).alloc (Nat.le_refl _) _)
  have HL0 := Lib.hid (show LgAt W0 w.heap.size d z (findS S.last 0).1 (findS S.last 0).2 0 0 0 false by rw [hW0]; exact heap_alloc_new _ _)
  rw [show w.alloc (.cells #[.pointer (some ⟨d, 0, none⟩), .int .i64 (z : Int), .int .i64 0, .int .i64 0, .int .i64 0, .int .u64 0, .int .u64 0, .int .i64 0, .int .i64 0, .bool false] 78) = W0 from hW0.symm]
  clear hW0
  go_wp2
  rw [hq]
  clear hq hq0
  go_loopw [22] (fun i wr => ∃ k : Nat, i = .int .i64 (k : Nat) ∧ k ≤ 2 ∧ LgAt wr w.heap.size d z (findS S.last k).1 (findS S.last k).2 0 0 0 false ∧ Below w.heap.size w wr) (fun i _ => 2 - (intOf i).toNat)
  case atStart => exact ⟨0, rfl, Nat.zero_le _, HL0.out, HB0.out⟩
  case round =>
    obtain ⟨k, rfl, hk, hL, hB⟩ := hrel
    by_cases hlt : k < 2
    · have hki : (k : Int) < 2 := by omega
      obtain ⟨c, hc⟩ : ∃ c, S.last[k]? = some c := ⟨_, List.getElem?_eq_getElem (by have := HN.out; omega)⟩
      have CR := Lib.hid (wreadBlock (HD.out.below hB) HO.out HP.out k c hc)
      have HC := Lib.hid (show markAt S.last k = takeMark (blockC c) z by unfold markAt; rw [List.getD_eq_getElem?_getD, hc, HZ.out, HNN.out]; rfl)
      have HBL := Lib.hid (blockC_len c (HWF.out.lb c (List.mem_of_getElem? hc)))
      have HL := Lib.hid hL
      have HB := Lib.hid hB
      have HK := Lib.hid hlt
      have hLlt : w.heap.size < wr.heap.size := (Array.getElem?_eq_some_iff.1 hL).1
      have HLT := Lib.hid hLlt
      clear hL hB hc hlt hLlt
      go_upto_region 13 with (go_at_call 49; go_loud (refine CR.out.mono ?_; rintro e w2 ⟨A2, n2, c2, rfl, r2, hn2, hc2, b2⟩; have R2 := Lib.hid r2; have HN2 := Lib.hid hn2; have HC2 := Lib.hid hc2; have B2 := Lib.hid b2; have L2 := Lib.hid (show LgAt w2 w.heap.size d z (findS S.last k).1 (findS S.last k).2 0 0 0 false from (b2.block _ HLT.out).trans HL.out); clear r2 hn2 hc2 b2 CR))
      have s1 := L2.out.c1
      go_upto_region 14 with (go_at_call 50; go_loud (refine (wtakeMark w2 A2 n2 c2 _ R2.out HN2.out HC2.out z HZ16.out).mono ?_; rintro e w3 ⟨rfl, b3⟩; have B3 := Lib.hid b3; clear b3))
      obtain ⟨M, hM⟩ : ∃ M, M = takeMark (blockC c) z := ⟨_, rfl⟩
      rw [← hM]
      have HMM := Lib.hid hM
      clear hM
      obtain ⟨W4, hW4⟩ : ∃ W, w3.alloc (.cells #[.int .i64 (M.turn : Int), .int .i64 (M.area : Int), .int .u64 (M.since : Int)] 76) = W := ⟨_, rfl⟩
      have HW4 := Lib.hid hW4
      have L3 := (B3.out.block _ (by have := L2.out.lt; omega)).trans L2.out
      have L4 := Lib.hid (show LgAt W4 w.heap.size d z (findS S.last k).1 (findS S.last k).2 0 0 0 false by rw [← hW4]; exact (Below.heap_alloc _ _ _ (Array.getElem?_eq_some_iff.1 L3).1).trans L3)
      have Q4 := Lib.hid (show W4.heap[w3.heap.size]? = some (.cells #[.int .i64 (M.turn : Int), .int .i64 (M.area : Int), .int .u64 (M.since : Int)] 76 (0, 0)) by rw [← hW4]; exact heap_alloc_new _ _)
      have B4 := Lib.hid (show Below w2.heap.size w2 W4 by rw [← hW4]; exact B3.out.alloc B3.out.size _)
      clear L3 s1
      go_upto_region 14 with fail
      rw [HW4.out]
      have HT := Lib.hid (findS_turn S.last k)
      obtain ⟨o, ho⟩ : ∃ o, o = findS S.last k := ⟨_, rfl⟩
      have HO2 := Lib.hid ho
      rw [← ho] at L4 HT
      have m0 : W4.drew.cell? ⟨w3.heap.size, 0, none⟩ = some (.int .i64 (M.turn : Int)) := cell_of_row _ _ 0 _ _ _ Q4.out
      have m1 : W4.drew.cell? ⟨w3.heap.size, 1, none⟩ = some (.int .i64 (M.area : Int)) := cell_of_row _ _ 1 _ _ _ Q4.out
      have m2 : W4.drew.cell? ⟨w3.heap.size, 2, none⟩ = some (.int .u64 (M.since : Int)) := cell_of_row _ _ 2 _ _ _ Q4.out
      have l3 : W4.drew.cell? ⟨w.heap.size, 3, none⟩ = some (.int .i64 (o.2.turn : Int)) := L4.out.c3
      have l4 : W4.drew.cell? ⟨w.heap.size, 4, none⟩ = some (.int .i64 (o.2.area : Int)) := L4.out.c4
      have l5 : W4.drew.cell? ⟨w.heap.size, 5, none⟩ = some (.int .u64 (o.2.since : Int)) := L4.out.c5
      have CN := Lib.hid (wnewer W4.drew M o.2 HT.out.1)
      clear ho
      refine wp_region_still_tail 5 (by kernel_rfl) (by kernel_rfl) ?_
      simp only [List.take_succ_cons, List.take_zero, List.drop_succ_cons, List.drop_zero]
      change wpStill _ _ W4.drew _ _ _
      iterate 5 still_step
      refine wpStill_nil ?_
      change wpList _ _ _ _ _ W4.drew
      clear m0 m1 m2 l3 l4 l5
      by_cases hnew : M.newer o.2 = true
      · rw [hnew] at CN
        have HNEW := Lib.hid hnew
        clear hnew
        go_upto_region 15 with (go_at_call 51; go_loud (refine CN.out.mono ?_; rintro e w5 ⟨rfl, b5⟩; have B5 := Lib.hid (show Below W4.heap.size W4 w5 from ⟨b5.os, b5.tape, b5.output, b5.size, b5.block⟩); clear b5 CN))
        have L5 := Lib.hid (show LgAt w5 w.heap.size d z o.1 o.2 0 0 0 false from (B5.out.block _ L4.out.lt).trans L4.out)
        have Q5 := Lib.hid (show w5.heap[w3.heap.size]? = some (.cells #[.int .i64 (M.turn : Int), .int .i64 (M.area : Int), .int .u64 (M.since : Int)] 76 (0, 0)) from (B5.out.block _ (Array.getElem?_eq_some_iff.1 Q4.out).1).trans Q4.out)
        have m0 : w5.cell? ⟨w3.heap.size, 0, none⟩ = some (.int .i64 (M.turn : Int)) := cell_of_row _ _ 0 _ _ _ Q5.out
        have m1 : w5.cell? ⟨w3.heap.size, 1, none⟩ = some (.int .i64 (M.area : Int)) := cell_of_row _ _ 1 _ _ _ Q5.out
        have m2 : w5.cell? ⟨w3.heap.size, 2, none⟩ = some (.int .u64 (M.since : Int)) := cell_of_row _ _ 2 _ _ _ Q5.out
        have l2 : w5.cell? ⟨w.heap.size, 2, none⟩ = some (.int .i64 (o.1 : Int)) := L5.out.c2
        have l3 : w5.cell? ⟨w.heap.size, 3, none⟩ = some (.int .i64 (o.2.turn : Int)) := L5.out.c3
        have l4 : w5.cell? ⟨w.heap.size, 4, none⟩ = some (.int .i64 (o.2.area : Int)) := L5.out.c4
        have l5 : w5.cell? ⟨w.heap.size, 5, none⟩ = some (.int .u64 (o.2.since : Int)) := L5.out.c5
        have f2 : w5.frozen? ⟨w.heap.size, 2, none⟩ = false := L5.out.f 2
        have f3 : w5.frozen? ⟨w.heap.size, 3, none⟩ = false := L5.out.f 3
        have f4 : w5.frozen? ⟨w.heap.size, 4, none⟩ = false := L5.out.f 4
        have f5 : w5.frozen? ⟨w.heap.size, 5, none⟩ = false := L5.out.f 5
        have hne : w3.heap.size ≠ w.heap.size := by have := L2.out.lt; have := B3.out.size; omega
        obtain ⟨W6, hW6⟩ : ∃ W, (((w5.setCell ⟨w.heap.size, 2, none⟩ (.int .i64 (k : Int))).setCell ⟨w.heap.size, 3, none⟩ (.int .i64 (M.turn : Int))).setCell ⟨w.heap.size, 4, none⟩ (.int .i64 (M.area : Int))).setCell ⟨w.heap.size, 5, none⟩ (.int .u64 (M.since : Int)) = W := ⟨_, rfl⟩
        have L6 := Lib.hid (show LgAt W6 w.heap.size d z k M 0 0 0 false by
          show W6.heap[w.heap.size]? = _
          rw [← hW6, blk_set (blk_set (blk_set (blk_set (show w5.heap[w.heap.size]? = _ from L5.out) 2 _) 3 _) 4 _) 5 _]
          rfl)
        have B6 := Lib.hid (show Below w.heap.size w W6 by
          rw [← hW6]
          exact ((((((HB.out.trans (B2.out.mono HB.out.size)).trans ((B4.out.trans (B5.out.mono B4.out.size)).mono (Nat.le_trans HB.out.size B2.out.size)))).setCell (p := ⟨w.heap.size, 2, none⟩) (Nat.le_refl _) _).setCell (p := ⟨w.heap.size, 3, none⟩) (Nat.le_refl _) _).setCell (p := ⟨w.heap.size, 4, none⟩) (Nat.le_refl _) _).setCell (p := ⟨w.heap.size, 5, none⟩) (Nat.le_refl _) _)
        have HW6 := Lib.hid hW6
        clear hW6
        have HREL := Lib.hid (show ∃ k' : Nat, Value.int .i64 ((k : Int) + 1) = .int .i64 (k' : Nat) ∧ k' ≤ 2 ∧ LgAt W6.drew w.heap.size d z (findS S.last k').1 (findS S.last k').2 0 0 0 false ∧ Below w.heap.size w W6.drew from by
          refine ⟨k + 1, by go_num, HK.out, ?_, B6.out.drew⟩
          have e : findS S.last (k + 1) = (k, M) := by rw [findS, HC.out, ← HMM.out, ← HO2.out, if_pos HNEW.out]
          rw [e]
          exact L6.out)
        go_region
        all_goals
          rw [HW6.out]
          go_wp2
          go_roundw
          case rel =>
            first | exact HREL.out | ((repeat apply Exists.intro); exact ⟨HREL.out, rfl⟩)
          case measure => have := HK.out; simp [intOf]; omega
      · have hnew2 : M.newer o.2 = false := by simpa using hnew
        rw [hnew2] at CN
        have HNEW := Lib.hid hnew
        clear hnew hnew2
        go_wp2_with (go_at_call 51; go_loud (refine CN.out.mono ?_; rintro e w5 ⟨rfl, b5⟩; have B5 := Lib.hid (show Below W4.heap.size W4 w5 from ⟨b5.os, b5.tape, b5.output, b5.size, b5.block⟩); clear b5 CN))
        go_roundw
        case rel =>
          have HREL : ∃ k' : Nat, Value.int .i64 ((k : Int) + 1) = .int .i64 (k' : Nat) ∧ k' ≤ 2 ∧ LgAt w5 w.heap.size d z (findS S.last k').1 (findS S.last k').2 0 0 0 false ∧ Below w.heap.size w w5 := by
            refine ⟨k + 1, by go_num, HK.out, ?_, (HB.out.trans (B2.out.mono HB.out.size)).trans ((B4.out.trans (B5.out.mono B4.out.size)).mono (Nat.le_trans HB.out.size B2.out.size))⟩
            have e : findS S.last (k + 1) = o := by rw [findS, HC.out, ← HMM.out, ← HO2.out, if_neg HNEW.out]
            rw [e]
            exact (B5.out.block _ L4.out.lt).trans L4.out
          first | exact HREL | ((repeat apply Exists.intro); exact ⟨HREL, rfl⟩)
        case measure => have := HK.out; simp [intOf]; omega
    · obtain rfl : k = 2 := by omega
      have HL := Lib.hid hL
      have HB := Lib.hid hB
      clear hL hB hlt
      go_wp2
      go_ret2
      exact ⟨w.heap.size, rfl, by rw [← HNN.out, ← HZ.out]; exact HL.out, Nat.le_refl _, HB.out⟩
end Go.Proofs.Ythpbcibjohakkaa
