/- The law's begun. -/
import Derived.Test.YthpbcibjohakkaaJBQ
namespace Go.Proofs.Ythpbcibjohakkaa
set_option maxRecDepth 100000
set_option maxRecDepth 100000
open Go.RowKit

def zeroW : Array Value := #[.pointer none, .pointer none, .int .i64 0, .slice none 0 0, .slice none 0 0, .bool false, .bool false]
/-- What begun leaves. -/
def BegunIs (w : World) (n : Int) (e : Ending) (w' : World) : Prop :=
  (¬ (6 ≤ n ∧ n ≤ 16384) ∧ e = .returned (.tuple #[.agg zeroW, .bool false, .bool true]) ∧ Below w.heap.size w w') ∨
  ((6 ≤ n ∧ n ≤ 16384) ∧ ∃ d L S F, e = .returned (.tuple #[.agg (LwC d L (areaSize S.last.length) (.slice none 0 0) (.slice none 0 0) false false), .bool true, .bool true]) ∧ Below w.heap.size w w' ∧ Up F w' d L S 1 [] ∧
    (∀ j, F j → w.heap.size ≤ j ∧ j < w'.heap.size) ∧ w.heap.size ≤ L ∧ 0 ≤ S.writes ∧ S.writes ≤ 40000)

/-- Format of a calm disk: a log whose power is there. -/
theorem format_up {F : Nat → Prop} {w : World} {d : Nat} {S : St} (h : PD F w d S) (hc : Calm S) (hn : 6 ≤ S.last.length) (h0 : 0 ≤ S.writes) (h1 : S.writes ≤ 1000000) :
    Calls Try.prog 18 #[.pointer (some ⟨d, 0, none⟩)] w fun e w' =>
      ∃ L S', e = .returned (.tuple #[.pointer (some ⟨L, 0, none⟩), .int .i64 0]) ∧ w.heap.size ≤ L ∧ Out F w w' ∧ S'.last.length = S.last.length ∧ Up (fun k => Gr F w k ∧ k ≠ L) w' d L S' 1 [] ∧ 0 ≤ S'.writes ∧ S'.writes ≤ S.writes + 40000 := by
  refine (format_calm h hc hn).mono ?_
  rintro e w' ⟨L, S', slot, m, rfl, hL, ho, hlen, hcl, hwr⟩
  obtain ⟨h2, h3⟩ := hwr h0 h1
  exact ⟨L, S', rfl, hL, ho, hlen, ⟨hcl.pd, hcl.calm.off, hcl.calm.pend, hcl.out, slot, m, 1, [], hcl.li, hcl.lg, rfl, Nat.le_refl _⟩, h2, h3⟩

/-- Seven cells, one behind the other. -/
def set7 (w : World) (b : Nat) (v0 v1 v2 v3 v4 v5 v6 : Value) : World :=
  ((((((w.setCell ⟨b, 0, none⟩ v0).setCell ⟨b, 1, none⟩ v1).setCell ⟨b, 2, none⟩ v2).setCell ⟨b, 3, none⟩ v3).setCell ⟨b, 4, none⟩ v4).setCell ⟨b, 5, none⟩ v5).setCell ⟨b, 6, none⟩ v6
theorem set7_blk {w : World} {b : Nat} {t : TypeId} {x0 x1 x2 x3 x4 x5 x6 : Value} (h : w.heap[b]? = some (.cells #[x0, x1, x2, x3, x4, x5, x6] t (0, 0))) (v0 v1 v2 v3 v4 v5 v6 : Value) : (set7 w b v0 v1 v2 v3 v4 v5 v6).heap[b]? = some (.cells #[v0, v1, v2, v3, v4, v5, v6] t (0, 0)) := by
  have h0 : (w.setCell ⟨b, 0, none⟩ v0).heap[b]? = some (.cells #[v0, x1, x2, x3, x4, x5, x6] t (0, 0)) := (blk_set h 0 v0).trans rfl
  have h1 : ((w.setCell ⟨b, 0, none⟩ v0).setCell ⟨b, 1, none⟩ v1).heap[b]? = some (.cells #[v0, v1, x2, x3, x4, x5, x6] t (0, 0)) := (blk_set h0 1 v1).trans rfl
  have h2 : (((w.setCell ⟨b, 0, none⟩ v0).setCell ⟨b, 1, none⟩ v1).setCell ⟨b, 2, none⟩ v2).heap[b]? = some (.cells #[v0, v1, v2, x3, x4, x5, x6] t (0, 0)) := (blk_set h1 2 v2).trans rfl
  have h3 : ((((w.setCell ⟨b, 0, none⟩ v0).setCell ⟨b, 1, none⟩ v1).setCell ⟨b, 2, none⟩ v2).setCell ⟨b, 3, none⟩ v3).heap[b]? = some (.cells #[v0, v1, v2, v3, x4, x5, x6] t (0, 0)) := (blk_set h2 3 v3).trans rfl
  have h4 : (((((w.setCell ⟨b, 0, none⟩ v0).setCell ⟨b, 1, none⟩ v1).setCell ⟨b, 2, none⟩ v2).setCell ⟨b, 3, none⟩ v3).setCell ⟨b, 4, none⟩ v4).heap[b]? = some (.cells #[v0, v1, v2, v3, v4, x5, x6] t (0, 0)) := (blk_set h3 4 v4).trans rfl
  have h5 : ((((((w.setCell ⟨b, 0, none⟩ v0).setCell ⟨b, 1, none⟩ v1).setCell ⟨b, 2, none⟩ v2).setCell ⟨b, 3, none⟩ v3).setCell ⟨b, 4, none⟩ v4).setCell ⟨b, 5, none⟩ v5).heap[b]? = some (.cells #[v0, v1, v2, v3, v4, v5, x6] t (0, 0)) := (blk_set h4 5 v5).trans rfl
  have h6 : (((((((w.setCell ⟨b, 0, none⟩ v0).setCell ⟨b, 1, none⟩ v1).setCell ⟨b, 2, none⟩ v2).setCell ⟨b, 3, none⟩ v3).setCell ⟨b, 4, none⟩ v4).setCell ⟨b, 5, none⟩ v5).setCell ⟨b, 6, none⟩ v6).heap[b]? = some (.cells #[v0, v1, v2, v3, v4, v5, v6] t (0, 0)) := (blk_set h5 6 v6).trans rfl
  exact h6
theorem set7_out (w : World) (b : Nat) (v0 v1 v2 v3 v4 v5 v6 : Value) : Out (fun j => j = b) w (set7 w b v0 v1 v2 v3 v4 v5 v6) :=
  out_u2 (out_u2 (out_u2 (out_u2 (out_u2 (out_u2 (out_u2 (Out.refl _ _) 0 v0) 1 v1) 2 v2) 3 v3) 4 v4) 5 v5) 6 v6

set_option maxHeartbeats 8000000 in
theorem lbegun (w : World) (n : Int) (hr : -9223372036854775808 ≤ n ∧ n ≤ 9223372036854775807) : Calls Try.prog 8 #[.int .i64 n] w (BegunIs w n) := by
  obtain ⟨W1, hW1⟩ : ∃ W, w.alloc (.cells zeroW 29) = W := ⟨_, rfl⟩
  have q1 := Lib.hid (show W1.heap[w.heap.size]? = some (.cells zeroW 29 (0, 0)) by rw [← hW1]; exact heap_alloc_new _ _)
  have B1 := Lib.hid (show Below w.heap.size w W1 by rw [← hW1]; exact (Below.refl _ _).alloc (Nat.le_refl _) _)
  unfold zeroW at hW1
  have CN := Lib.hid (dnew W1 n hr)
  by_cases hd : 1 ≤ n ∧ n ≤ 16384
  · obtain ⟨N, rfl⟩ := Int.eq_ofNat_of_zero_le (show 0 ≤ n by omega)
    have hN : 1 ≤ N ∧ N ≤ 16384 := by omega
    have HN := Lib.hid hN
    obtain ⟨q, hq⟩ : ∃ q : Int, ((N : Int) - 2).tdiv 2 = q := ⟨_, rfl⟩
    have HQ := Lib.hid hq
    have CR := Lib.hid fun W => rnew W N hN.2
    rw [hq] at CR
    obtain ⟨fb, hfb⟩ : ∃ fb, decide (6 ≤ N) = fb := ⟨_, rfl⟩
    rw [hfb] at CR
    have HD := Lib.hid hd
    clear hd hr hN hq
    go_enter Try.func8, Try.ntmps8
    go_upto_region 4 with (go_at_call 24; go_loud (refine CN.out.mono ?_; rintro e w2 (⟨h, -, -⟩ | ⟨-, d, rfl, hp, b2⟩); exact absurd HD.out h; rw [Int.toNat_natCast] at hp; have P2 := Lib.hid hp.shut; have B2 := Lib.hid b2; clear CN hp b2))
    go_upto_region 5 with (go_at_call 16; go_loud (refine (CR.out _).mono ?_; rintro e w3 ⟨rfl, b3⟩; have B3 := Lib.hid b3; clear CR b3))
    obtain ⟨W4, hW4⟩ : ∃ W, w3.alloc (.cells #[.int .i64 q, .slice none 0 0] 27) = W := ⟨_, rfl⟩
    have b4 : Below w3.heap.size w3 W4 := by rw [← hW4]; exact (Below.refl _ _).alloc (Nat.le_refl _) _
    have q4 := Lib.hid (show W4.heap[w3.heap.size]? = some (.cells #[.int .i64 q, .slice none 0 0] 27 (0, 0)) by rw [← hW4]; exact heap_alloc_new _ _)
    have B24 := Lib.hid (show Below w2.heap.size w2 W4 from B3.out.trans (b4.mono B3.out.size))
    have HS1 := Lib.hid (show w.heap.size < W1.heap.size from (Array.getElem?_eq_some_iff.1 q1.out).1)
    have B14 := Lib.hid (show Below W1.heap.size W1 W4 from B2.out.trans (B24.out.mono B2.out.size))
    have qr := Lib.hid (show W4.heap[w.heap.size]? = some (.cells zeroW 29 (0, 0)) from (B14.out.block _ HS1.out).trans q1.out)
    have P4 := Lib.hid (P2.out.below B24.out)
    have BW4 := Lib.hid (show Below w.heap.size w W4 from B1.out.trans (B14.out.mono B1.out.size))
    have HNL := Lib.hid (show (newS N).last.length = N by simp [newS, newL])
    rw [hW4]
    clear b4 hW1
    by_cases h6 : 6 ≤ N
    · obtain rfl : true = fb := by rw [← hfb]; simp [h6]
      have CF := Lib.hid (format_up P4.out ⟨rfl, rfl, rfl⟩ (by rw [HNL.out]; exact h6) (by show (0 : Int) ≤ 0; omega) (by show (0 : Int) ≤ 1000000; omega))
      have HFS := Lib.hid (show ∀ j, (W1.heap.size ≤ j ∧ j < w2.heap.size) → j ≠ w.heap.size ∧ j ≠ w3.heap.size from fun j hj => by have := HS1.out; have := B3.out.size; omega)
      have H6 := Lib.hid h6
      clear h6 hfb
      go_upto_region 8 with (go_at_call 18; go_loud (refine CF.out.mono ?_; rintro e w5 ⟨L, S', rfl, hL, ho, hl5, hu5, hw0, hw1⟩; have O5 := Lib.hid ho; have U5 := Lib.hid hu5; have HL5 := Lib.hid hL; have HLN := Lib.hid hl5; clear CF hL ho hl5 hu5))
      have q5 := Lib.hid (show w5.heap[w.heap.size]? = some (.cells zeroW 29 (0, 0)) from (O5.out.block _ (Array.getElem?_eq_some_iff.1 qr.out).1 (fun hf => (HFS.out _ hf).1 rfl)).trans qr.out)
      have q6 := Lib.hid (show w5.heap[w3.heap.size]? = some (.cells #[.int .i64 q, .slice none 0 0] 27 (0, 0)) from (O5.out.block _ (Array.getElem?_eq_some_iff.1 q4.out).1 (fun hf => (HFS.out _ hf).2 rfl)).trans q4.out)
      have a0 : w5.cell? ⟨w.heap.size, 0, none⟩ = some (.pointer none) := cell_of_row _ _ 0 _ _ _ q5.out
      have a1 : w5.cell? ⟨w.heap.size, 1, none⟩ = some (.pointer none) := cell_of_row _ _ 1 _ _ _ q5.out
      have a2 : w5.cell? ⟨w.heap.size, 2, none⟩ = some (.int .i64 0) := cell_of_row _ _ 2 _ _ _ q5.out
      have a3 : w5.cell? ⟨w.heap.size, 3, none⟩ = some (.slice none 0 0) := cell_of_row _ _ 3 _ _ _ q5.out
      have a4 : w5.cell? ⟨w.heap.size, 4, none⟩ = some (.slice none 0 0) := cell_of_row _ _ 4 _ _ _ q5.out
      have a5 : w5.cell? ⟨w.heap.size, 5, none⟩ = some (.bool false) := cell_of_row _ _ 5 _ _ _ q5.out
      have a6 : w5.cell? ⟨w.heap.size, 6, none⟩ = some (.bool false) := cell_of_row _ _ 6 _ _ _ q5.out
      have f0 : w5.frozen? ⟨w.heap.size, 0, none⟩ = false := frozen_of_row _ _ _ _ _ q5.out
      have f1 : w5.frozen? ⟨w.heap.size, 1, none⟩ = false := frozen_of_row _ _ _ _ _ q5.out
      have f2 : w5.frozen? ⟨w.heap.size, 2, none⟩ = false := frozen_of_row _ _ _ _ _ q5.out
      have f3 : w5.frozen? ⟨w.heap.size, 3, none⟩ = false := frozen_of_row _ _ _ _ _ q5.out
      have f4 : w5.frozen? ⟨w.heap.size, 4, none⟩ = false := frozen_of_row _ _ _ _ _ q5.out
      have f5 : w5.frozen? ⟨w.heap.size, 5, none⟩ = false := frozen_of_row _ _ _ _ _ q5.out
      have f6 : w5.frozen? ⟨w.heap.size, 6, none⟩ = false := frozen_of_row _ _ _ _ _ q5.out
      have y0 : w5.cell? ⟨w3.heap.size, 0, none⟩ = some (.int .i64 q) := cell_of_row _ _ 0 _ _ _ q6.out
      have y1 : w5.cell? ⟨w3.heap.size, 1, none⟩ = some (.slice none 0 0) := cell_of_row _ _ 1 _ _ _ q6.out
      go_wp2
      clear y0 y1
      have s7 := set7_blk (x0 := .pointer none) (x1 := .pointer none) (x2 := .int .i64 0) (x3 := .slice none 0 0) (x4 := .slice none 0 0) (x5 := .bool false) (x6 := .bool false) q5.out (.pointer (some ⟨d, 0, none⟩)) (.pointer (some ⟨L, 0, none⟩)) (.int .i64 q) (.slice none 0 0) (.slice none 0 0) (.bool false) (.bool false)
      have O7 := Lib.hid (set7_out w5 w.heap.size (.pointer (some ⟨d, 0, none⟩)) (.pointer (some ⟨L, 0, none⟩)) (.int .i64 q) (.slice none 0 0) (.slice none 0 0) (.bool false) (.bool false))
      unfold set7 at s7 O7
      clear a0 a1 a2 a3 a4 a5 a6 f0 f1 f2 f3 f4 f5 f6
      obtain ⟨W9, hW9⟩ : ∃ W, ((((((w5.setCell ⟨w.heap.size, 0, none⟩ (.pointer (some ⟨d, 0, none⟩))).setCell ⟨w.heap.size, 1, none⟩ (.pointer (some ⟨L, 0, none⟩))).setCell ⟨w.heap.size, 2, none⟩ (.int .i64 q)).setCell ⟨w.heap.size, 3, none⟩ (.slice none 0 0)).setCell ⟨w.heap.size, 4, none⟩ (.slice none 0 0)).setCell ⟨w.heap.size, 5, none⟩ (.bool false)).setCell ⟨w.heap.size, 6, none⟩ (.bool false) = W := ⟨_, rfl⟩
      rw [hW9] at s7 O7 ⊢
      have a0 : W9.cell? ⟨w.heap.size, 0, none⟩ = some (.pointer (some ⟨d, 0, none⟩)) := cell_of_row _ _ 0 _ _ _ s7
      have a1 : W9.cell? ⟨w.heap.size, 1, none⟩ = some (.pointer (some ⟨L, 0, none⟩)) := cell_of_row _ _ 1 _ _ _ s7
      have a2 : W9.cell? ⟨w.heap.size, 2, none⟩ = some (.int .i64 q) := cell_of_row _ _ 2 _ _ _ s7
      have a3 : W9.cell? ⟨w.heap.size, 3, none⟩ = some (.slice none 0 0) := cell_of_row _ _ 3 _ _ _ s7
      have a4 : W9.cell? ⟨w.heap.size, 4, none⟩ = some (.slice none 0 0) := cell_of_row _ _ 4 _ _ _ s7
      have a5 : W9.cell? ⟨w.heap.size, 5, none⟩ = some (.bool false) := cell_of_row _ _ 5 _ _ _ s7
      have a6 : W9.cell? ⟨w.heap.size, 6, none⟩ = some (.bool false) := cell_of_row _ _ 6 _ _ _ s7
      refine bodyPost_ret (v := .tuple #[.agg #[.pointer (some ⟨d, 0, none⟩), .pointer (some ⟨L, 0, none⟩), .int .i64 q, .slice none 0 0, .slice none 0 0, .bool false, .bool false], .bool true, .bool true]) (by simp [results, Try.results8, go_sem, zeroW, a0, a1, a2, a3, a4, a5, a6]) rfl ?_
      have hqa : q = ((areaSize S'.last.length : Nat) : Int) := by
        rw [HLN.out, HNL.out, ← HQ.out, Int.tdiv_eq_ediv_of_nonneg (by have := H6.out; omega)]
        have := H6.out
        unfold areaSize
        omega
      have hs1 := HS1.out
      have hs4 := B14.out.size
      have hL := HL5.out
      have hU := U5.out.shut
      have hw4 := BW4.out
      have hb5 : Below w.heap.size w w5 := hw4.trans (O5.out.below hw4.size fun i hi hf => by have := hf.1; omega)
      refine .inr ⟨by have := H6.out; have := HN.out; omega, d, L, S', _, by rw [hqa]; rfl, hb5.trans (O7.out.below hb5.size fun i hi hf => by omega), hU.stays fun j hj hf => O7.out.block j hj fun e => ?_, fun j hf => ?_, by omega, hw0, by have : (newS N).writes = 0 := rfl; omega⟩
      · rcases hf with ⟨⟨hf, -⟩, -⟩ | hf
        · rcases hf with hf | hf
          · have := hf.1; omega
          · omega
        · omega
      · refine ⟨?_, Nat.lt_of_lt_of_le hf.2 O7.out.size⟩
        rcases hf.1.1 with hf | hf
        · have := hf.1; omega
        · omega
    · obtain rfl : false = fb := by rw [← hfb]; simp [h6]
      have CF := Lib.hid (wformat_small P4.out (by rw [HNL.out]; omega))
      have H6 := Lib.hid h6
      clear h6 hfb
      go_upto_region 7 with (go_at_call 18; go_loud (refine CF.out.mono ?_; rintro e w5 ⟨rfl, b5⟩; have B5 := Lib.hid b5; clear CF b5))
      have q5 := Lib.hid (show w5.heap[w.heap.size]? = some (.cells zeroW 29 (0, 0)) from (B5.out.block _ (Array.getElem?_eq_some_iff.1 qr.out).1).trans qr.out)
      have a0 : w5.cell? ⟨w.heap.size, 0, none⟩ = some (.pointer none) := cell_of_row _ _ 0 _ _ _ q5.out
      have a1 : w5.cell? ⟨w.heap.size, 1, none⟩ = some (.pointer none) := cell_of_row _ _ 1 _ _ _ q5.out
      have a2 : w5.cell? ⟨w.heap.size, 2, none⟩ = some (.int .i64 0) := cell_of_row _ _ 2 _ _ _ q5.out
      have a3 : w5.cell? ⟨w.heap.size, 3, none⟩ = some (.slice none 0 0) := cell_of_row _ _ 3 _ _ _ q5.out
      have a4 : w5.cell? ⟨w.heap.size, 4, none⟩ = some (.slice none 0 0) := cell_of_row _ _ 4 _ _ _ q5.out
      have a5 : w5.cell? ⟨w.heap.size, 5, none⟩ = some (.bool false) := cell_of_row _ _ 5 _ _ _ q5.out
      have a6 : w5.cell? ⟨w.heap.size, 6, none⟩ = some (.bool false) := cell_of_row _ _ 6 _ _ _ q5.out
      have f0 : w5.frozen? ⟨w.heap.size, 0, none⟩ = false := frozen_of_row _ _ _ _ _ q5.out
      have f1 : w5.frozen? ⟨w.heap.size, 1, none⟩ = false := frozen_of_row _ _ _ _ _ q5.out
      have f2 : w5.frozen? ⟨w.heap.size, 2, none⟩ = false := frozen_of_row _ _ _ _ _ q5.out
      have f3 : w5.frozen? ⟨w.heap.size, 3, none⟩ = false := frozen_of_row _ _ _ _ _ q5.out
      have f4 : w5.frozen? ⟨w.heap.size, 4, none⟩ = false := frozen_of_row _ _ _ _ _ q5.out
      have f5 : w5.frozen? ⟨w.heap.size, 5, none⟩ = false := frozen_of_row _ _ _ _ _ q5.out
      have f6 : w5.frozen? ⟨w.heap.size, 6, none⟩ = false := frozen_of_row _ _ _ _ _ q5.out
      go_wp2
      have s7 := set7_blk (x0 := .pointer none) (x1 := .pointer none) (x2 := .int .i64 0) (x3 := .slice none 0 0) (x4 := .slice none 0 0) (x5 := .bool false) (x6 := .bool false) q5.out (.pointer none) (.pointer none) (.int .i64 0) (.slice none 0 0) (.slice none 0 0) (.bool false) (.bool false)
      have O7 := Lib.hid (set7_out w5 w.heap.size (.pointer none) (.pointer none) (.int .i64 0) (.slice none 0 0) (.slice none 0 0) (.bool false) (.bool false))
      unfold set7 at s7 O7
      clear a0 a1 a2 a3 a4 a5 a6 f0 f1 f2 f3 f4 f5 f6
      obtain ⟨W9, hW9⟩ : ∃ W, ((((((w5.setCell ⟨w.heap.size, 0, none⟩ (.pointer none)).setCell ⟨w.heap.size, 1, none⟩ (.pointer none)).setCell ⟨w.heap.size, 2, none⟩ (.int .i64 0)).setCell ⟨w.heap.size, 3, none⟩ (.slice none 0 0)).setCell ⟨w.heap.size, 4, none⟩ (.slice none 0 0)).setCell ⟨w.heap.size, 5, none⟩ (.bool false)).setCell ⟨w.heap.size, 6, none⟩ (.bool false) = W := ⟨_, rfl⟩
      rw [hW9] at s7 O7 ⊢
      have a0 : W9.cell? ⟨w.heap.size, 0, none⟩ = some (.pointer none) := cell_of_row _ _ 0 _ _ _ s7
      have a1 : W9.cell? ⟨w.heap.size, 1, none⟩ = some (.pointer none) := cell_of_row _ _ 1 _ _ _ s7
      have a2 : W9.cell? ⟨w.heap.size, 2, none⟩ = some (.int .i64 0) := cell_of_row _ _ 2 _ _ _ s7
      have a3 : W9.cell? ⟨w.heap.size, 3, none⟩ = some (.slice none 0 0) := cell_of_row _ _ 3 _ _ _ s7
      have a4 : W9.cell? ⟨w.heap.size, 4, none⟩ = some (.slice none 0 0) := cell_of_row _ _ 4 _ _ _ s7
      have a5 : W9.cell? ⟨w.heap.size, 5, none⟩ = some (.bool false) := cell_of_row _ _ 5 _ _ _ s7
      have a6 : W9.cell? ⟨w.heap.size, 6, none⟩ = some (.bool false) := cell_of_row _ _ 6 _ _ _ s7
      refine bodyPost_ret (v := .tuple #[.agg zeroW, .bool false, .bool true]) (by simp [results, Try.results8, go_sem, zeroW, a0, a1, a2, a3, a4, a5, a6]) rfl ?_
      have hb5 : Below w.heap.size w w5 := BW4.out.trans (B5.out.mono BW4.out.size)
      exact .inl ⟨by have := H6.out; omega, rfl, hb5.trans (O7.out.below hb5.size fun i hi hf => by omega)⟩
  · have hrest : n < 1 ∨ (¬ n < 1 ∧ 16384 < n) := by omega
    have HD := Lib.hid hd
    clear hd
    go_enter Try.func8, Try.ntmps8
    go_upto_region 2 with (go_at_call 24; go_loud (refine CN.out.mono ?_; rintro e w2 (⟨-, rfl, rfl⟩ | ⟨h, -⟩); rotate_left; exact absurd h HD.out; clear CN))
    have a0 : W1.cell? ⟨w.heap.size, 0, none⟩ = some (.pointer none) := cell_of_row _ _ 0 _ _ _ q1.out
    have a1 : W1.cell? ⟨w.heap.size, 1, none⟩ = some (.pointer none) := cell_of_row _ _ 1 _ _ _ q1.out
    have a2 : W1.cell? ⟨w.heap.size, 2, none⟩ = some (.int .i64 0) := cell_of_row _ _ 2 _ _ _ q1.out
    have a3 : W1.cell? ⟨w.heap.size, 3, none⟩ = some (.slice none 0 0) := cell_of_row _ _ 3 _ _ _ q1.out
    have a4 : W1.cell? ⟨w.heap.size, 4, none⟩ = some (.slice none 0 0) := cell_of_row _ _ 4 _ _ _ q1.out
    have a5 : W1.cell? ⟨w.heap.size, 5, none⟩ = some (.bool false) := cell_of_row _ _ 5 _ _ _ q1.out
    have a6 : W1.cell? ⟨w.heap.size, 6, none⟩ = some (.bool false) := cell_of_row _ _ 6 _ _ _ q1.out
    have f0 : W1.frozen? ⟨w.heap.size, 0, none⟩ = false := frozen_of_row _ _ _ _ _ q1.out
    have f1 : W1.frozen? ⟨w.heap.size, 1, none⟩ = false := frozen_of_row _ _ _ _ _ q1.out
    have f2 : W1.frozen? ⟨w.heap.size, 2, none⟩ = false := frozen_of_row _ _ _ _ _ q1.out
    have f3 : W1.frozen? ⟨w.heap.size, 3, none⟩ = false := frozen_of_row _ _ _ _ _ q1.out
    have f4 : W1.frozen? ⟨w.heap.size, 4, none⟩ = false := frozen_of_row _ _ _ _ _ q1.out
    have f5 : W1.frozen? ⟨w.heap.size, 5, none⟩ = false := frozen_of_row _ _ _ _ _ q1.out
    have f6 : W1.frozen? ⟨w.heap.size, 6, none⟩ = false := frozen_of_row _ _ _ _ _ q1.out
    clear hW1
    rcases hrest with hlt | ⟨hlt, hgt⟩
    · go_wp2
      have s7 := set7_blk (x0 := .pointer none) (x1 := .pointer none) (x2 := .int .i64 0) (x3 := .slice none 0 0) (x4 := .slice none 0 0) (x5 := .bool false) (x6 := .bool false) q1.out (.pointer none) (.pointer none) (.int .i64 0) (.slice none 0 0) (.slice none 0 0) (.bool false) (.bool false)
      have O7 := Lib.hid (set7_out W1 w.heap.size (.pointer none) (.pointer none) (.int .i64 0) (.slice none 0 0) (.slice none 0 0) (.bool false) (.bool false))
      unfold set7 at s7 O7
      clear a0 a1 a2 a3 a4 a5 a6 f0 f1 f2 f3 f4 f5 f6
      obtain ⟨W9, hW9⟩ : ∃ W, ((((((W1.setCell ⟨w.heap.size, 0, none⟩ (.pointer none)).setCell ⟨w.heap.size, 1, none⟩ (.pointer none)).setCell ⟨w.heap.size, 2, none⟩ (.int .i64 0)).setCell ⟨w.heap.size, 3, none⟩ (.slice none 0 0)).setCell ⟨w.heap.size, 4, none⟩ (.slice none 0 0)).setCell ⟨w.heap.size, 5, none⟩ (.bool false)).setCell ⟨w.heap.size, 6, none⟩ (.bool false) = W := ⟨_, rfl⟩
      rw [hW9] at s7 O7 ⊢
      have a0 : W9.cell? ⟨w.heap.size, 0, none⟩ = some (.pointer none) := cell_of_row _ _ 0 _ _ _ s7
      have a1 : W9.cell? ⟨w.heap.size, 1, none⟩ = some (.pointer none) := cell_of_row _ _ 1 _ _ _ s7
      have a2 : W9.cell? ⟨w.heap.size, 2, none⟩ = some (.int .i64 0) := cell_of_row _ _ 2 _ _ _ s7
      have a3 : W9.cell? ⟨w.heap.size, 3, none⟩ = some (.slice none 0 0) := cell_of_row _ _ 3 _ _ _ s7
      have a4 : W9.cell? ⟨w.heap.size, 4, none⟩ = some (.slice none 0 0) := cell_of_row _ _ 4 _ _ _ s7
      have a5 : W9.cell? ⟨w.heap.size, 5, none⟩ = some (.bool false) := cell_of_row _ _ 5 _ _ _ s7
      have a6 : W9.cell? ⟨w.heap.size, 6, none⟩ = some (.bool false) := cell_of_row _ _ 6 _ _ _ s7
      refine bodyPost_ret (v := .tuple #[.agg zeroW, .bool false, .bool true]) (by simp [results, Try.results8, go_sem, zeroW, a0, a1, a2, a3, a4, a5, a6]) rfl (.inl ⟨by omega, rfl, ?_⟩)
      exact B1.out.trans (O7.out.below B1.out.size fun i hi hf => by omega)
    · have hlt2 : decide (n < 1) = false := by simp; omega
      go_wp2
      have s7 := set7_blk (x0 := .pointer none) (x1 := .pointer none) (x2 := .int .i64 0) (x3 := .slice none 0 0) (x4 := .slice none 0 0) (x5 := .bool false) (x6 := .bool false) q1.out (.pointer none) (.pointer none) (.int .i64 0) (.slice none 0 0) (.slice none 0 0) (.bool false) (.bool false)
      have O7 := Lib.hid (set7_out W1 w.heap.size (.pointer none) (.pointer none) (.int .i64 0) (.slice none 0 0) (.slice none 0 0) (.bool false) (.bool false))
      unfold set7 at s7 O7
      clear a0 a1 a2 a3 a4 a5 a6 f0 f1 f2 f3 f4 f5 f6
      obtain ⟨W9, hW9⟩ : ∃ W, ((((((W1.setCell ⟨w.heap.size, 0, none⟩ (.pointer none)).setCell ⟨w.heap.size, 1, none⟩ (.pointer none)).setCell ⟨w.heap.size, 2, none⟩ (.int .i64 0)).setCell ⟨w.heap.size, 3, none⟩ (.slice none 0 0)).setCell ⟨w.heap.size, 4, none⟩ (.slice none 0 0)).setCell ⟨w.heap.size, 5, none⟩ (.bool false)).setCell ⟨w.heap.size, 6, none⟩ (.bool false) = W := ⟨_, rfl⟩
      rw [hW9] at s7 O7 ⊢
      have a0 : W9.cell? ⟨w.heap.size, 0, none⟩ = some (.pointer none) := cell_of_row _ _ 0 _ _ _ s7
      have a1 : W9.cell? ⟨w.heap.size, 1, none⟩ = some (.pointer none) := cell_of_row _ _ 1 _ _ _ s7
      have a2 : W9.cell? ⟨w.heap.size, 2, none⟩ = some (.int .i64 0) := cell_of_row _ _ 2 _ _ _ s7
      have a3 : W9.cell? ⟨w.heap.size, 3, none⟩ = some (.slice none 0 0) := cell_of_row _ _ 3 _ _ _ s7
      have a4 : W9.cell? ⟨w.heap.size, 4, none⟩ = some (.slice none 0 0) := cell_of_row _ _ 4 _ _ _ s7
      have a5 : W9.cell? ⟨w.heap.size, 5, none⟩ = some (.bool false) := cell_of_row _ _ 5 _ _ _ s7
      have a6 : W9.cell? ⟨w.heap.size, 6, none⟩ = some (.bool false) := cell_of_row _ _ 6 _ _ _ s7
      refine bodyPost_ret (v := .tuple #[.agg zeroW, .bool false, .bool true]) (by simp [results, Try.results8, go_sem, zeroW, a0, a1, a2, a3, a4, a5, a6]) rfl (.inl ⟨by omega, rfl, ?_⟩)
      exact B1.out.trans (O7.out.below B1.out.size fun i hi hf => by omega)
end Go.Proofs.Ythpbcibjohakkaa
