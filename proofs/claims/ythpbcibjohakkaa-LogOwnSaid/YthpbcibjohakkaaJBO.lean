import Derived.Test.YthpbcibjohakkaaLWrC
/- The law's write, where the log is over. -/
namespace Go.Proofs.Ythpbcibjohakkaa
set_option maxRecDepth 100000
set_option maxRecDepth 100000
open Go.RowKit

set_option maxHeartbeats 4000000 in
theorem lw_over_app {base wr : World} {u d : Nat} {S : St} {c : Nat} {rs alt : List (List Int)} (h : LwDn base wr u d S c rs alt) (hc : c < maxSt) (h0 : 0 ≤ S.writes) (h1 : S.writes ≤ 1152921504606846976) (N : Int) (A : Option Addr) (n cap : Nat) (zs : List Int)
    (hz : RB wr A n zs) (hA : ∀ ad, A = some ad → 0 < n → ad.block < base.heap.size) (hn : n ≤ cap) (hcap : cap ≤ 9223372036854775807) (hn2 : n ≤ 140737488355328) (K : Option Addr) (nk ck : Nat) :
    Calls Try.prog 14 #[.pointer (some ⟨u, 0, none⟩), .agg #[.int .i64 0, .int .i64 N, .slice A n cap, .slice K nk ck]] wr (LwIs base u d S (c + 1) (nblocks n)) := by
  have HH := Lib.hid h
  obtain ⟨L, F, G, v, mb, vs, us, hM, hU, hR, hRa, hused, hused2⟩ := h
  obtain ⟨Av, cv, rfl, -⟩ := hR.form
  have hlen := hz.len
  obtain ⟨k, hk⟩ : ∃ k, areaSize S.last.length = k := ⟨_, rfl⟩
  have hk2 : k ≤ 16384 := by rw [← hk]; exact area_le hU.lo.2
  rw [hk] at hM hused
  obtain ⟨W1, hW1⟩ : ∃ W, wr.alloc (.cells #[.int .i64 0, .int .i64 N, .slice A n cap, .slice K nk ck] 36) = W := ⟨_, rfl⟩
  have q1 := Lib.hid (show W1.heap[wr.heap.size]? = some (.cells #[.int .i64 0, .int .i64 N, .slice A n cap, .slice K nk ck] 36 (0, 0)) by rw [← hW1]; exact heap_alloc_new _ _)
  have b1 : Below wr.heap.size wr W1 := by rw [← hW1]; exact (Below.refl _ _).alloc (Nat.le_refl _) _
  have B1 := Lib.hid b1
  obtain ⟨W2, hW2⟩ : ∃ W, W1.alloc (.cells #[] 5) = W := ⟨_, rfl⟩
  have b2 : Below W1.heap.size W1 W2 := by rw [← hW2]; exact (Below.refl _ _).alloc (Nat.le_refl _) _
  have B2 := Lib.hid b2
  have OB2 := Lib.hid (show OB W1.heap.size W2 (.slice (some ⟨W1.heap.size, 0, none⟩) 0 0) [] by rw [← hW2]; exact ob_empty W1)
  have Z2 := Lib.hid ((hz.below' b1).below' b2)
  have e2 : W2.cell? ⟨wr.heap.size, 2, none⟩ = some (.slice A n cap) := keep_below (cell_of_row _ _ 2 _ _ _ q1.out) b2
  have HM := Lib.hid hM
  have HU := Lib.hid hU
  have HR := Lib.hid hR
  have HZ := Lib.hid hz
  have HA := Lib.hid hA
  have HK := Lib.hid hk
  have HUS := Lib.hid hused
  have HLN := Lib.hid hlen
  clear hM hU hR hz hA b1 b2 hk hused hlen
  go_enter Try.func14, Try.ntmps14
  go_upto_region 2 with (at_builtin; refine ob_append rfl (.tmp 9) (.tmp 11) rfl W1.heap.size _ [] rfl OB2.out A n cap zs rfl Z2.out (by simp only [List.length_nil]; omega) B2.out.size ?_; intro v3 w3 ob3 b3 gr3; have OB3 := Lib.hid ob3; have B3 := Lib.hid b3; clear gr3 ob3 b3)
  go_upto_region 4 with fail
  obtain ⟨A3, c3, rfl, rb3, hc3, hm3⟩ := OB3.out.form
  simp only [List.nil_append] at rb3 hc3 OB3 ⊢
  rw [HLN.out] at rb3 hc3 ⊢
  have B13 := Lib.hid (show Below W1.heap.size W1 w3 from B2.out.trans (B3.out))
  have BW3 := Lib.hid (show Below wr.heap.size wr w3 from B1.out.trans (B13.out.mono B1.out.size))
  have HS1 := Lib.hid (show wr.heap.size < W1.heap.size from (Array.getElem?_eq_some_iff.1 q1.out).1)
  obtain ⟨W4, hW4⟩ : ∃ W, w3.alloc (.cells #[.int .i64 0, .slice none 0 0] 27) = W := ⟨_, rfl⟩
  have q4 := Lib.hid (show W4.heap[w3.heap.size]? = some (.cells #[.int .i64 0, .slice none 0 0] 27 (0, 0)) by rw [← hW4]; exact heap_alloc_new _ _)
  have b4 : Below w3.heap.size w3 W4 := by rw [← hW4]; exact (Below.refl _ _).alloc (Nat.le_refl _) _
  have BW4 := Lib.hid (show Below wr.heap.size wr W4 from BW3.out.trans (b4.mono BW3.out.size))
  have O4 := Lib.hid (show W4.heap[wr.heap.size]? = some (.cells #[.int .i64 0, .int .i64 N, .slice A n cap, .slice K nk ck] 36 (0, 0)) from (b4.block _ (by have := HS1.out; have := B13.out.size; omega)).trans ((B13.out.block _ HS1.out).trans q1.out))
  have RB4 := Lib.hid (rb3.below' b4)
  have HC3 := Lib.hid hc3
  have HM3 := Lib.hid (show c3 ≤ 9223372036854775807 by simp only [maxLen] at hm3; omega)
  have e0 : W4.cell? ⟨wr.heap.size, 0, none⟩ = some (.int .i64 0) := cell_of_row _ _ 0 _ _ _ O4.out
  have M4 := Lib.hid (HM.out.below BW4.out)
  have x2 := M4.out.c2
  have x3 := M4.out.c3
  have CR := Lib.hid (ref_append W4 k G 0 _ rs vs (HR.out.below BW4.out) HUS.out A3 n c3 zs RB4.out hc3 HM3.out hk2)
  rw [hW4]
  obtain ⟨q, hq⟩ : ∃ q, ansA zs.length (usedOf rs) k = q := ⟨_, rfl⟩
  rw [hq] at CR
  have HQ := Lib.hid hq
  clear rb3 hc3 hm3 b4 e2 hq hW1 hW2
  go_upto_region 6 with (go_at_call 32; go_loud (refine CR.out.mono ?_; rintro e w5 ⟨X, xm, xc, xs, xb, rfl, b5, r5⟩; have B5 := Lib.hid b5; have R5 := Lib.hid r5; have z0 : w5.cell? ⟨w3.heap.size, 0, none⟩ = some (.int .i64 0) := keep_below (cell_of_row _ _ 0 _ _ _ q4.out) b5; have z1 : w5.cell? ⟨w3.heap.size, 1, none⟩ = some (.slice none 0 0) := keep_below (cell_of_row _ _ 1 _ _ _ q4.out) b5; have fz0 : w5.frozen? ⟨w3.heap.size, 0, none⟩ = false := frozen_of_row _ _ _ _ _ ((b5.block _ (Array.getElem?_eq_some_iff.1 q4.out).1).trans q4.out); have fz1 : w5.frozen? ⟨w3.heap.size, 1, none⟩ = false := frozen_of_row _ _ _ _ _ ((b5.block _ (Array.getElem?_eq_some_iff.1 q4.out).1).trans q4.out); clear b5 r5 CR))
  obtain ⟨W6, hW6⟩ : ∃ W, (w5.setCell ⟨w3.heap.size, 0, none⟩ (.int .i64 (k : Int))).setCell ⟨w3.heap.size, 1, none⟩ (.slice X xm xc) = W := ⟨_, rfl⟩
  rw [hW6]
  have HS3 := Lib.hid (show wr.heap.size < w3.heap.size by have := HS1.out; have := B13.out.size; omega)
  have HSZ6 : W6.heap.size = w5.heap.size := by rw [← hW6]; simp [World.setCell]
  have q6 := Lib.hid (show W6.heap[w3.heap.size]? = some (.cells #[.int .i64 (k : Int), .slice X xm xc] 27 (0, 0)) by
    rw [← hW6]
    have := blk_set (blk_set ((B5.out.block _ (Array.getElem?_eq_some_iff.1 q4.out).1).trans q4.out) 0 (.int .i64 (k : Int))) 1 (.slice X xm xc)
    exact this)
  have HO56 : ∀ j, j ≠ w3.heap.size → W6.heap[j]? = w5.heap[j]? := fun j hj => by rw [← hW6]; exact (heap_setCell_ne _ _ _ _ j hj).trans (heap_setCell_ne _ _ _ _ j hj)
  have BW6 := Lib.hid (show Below wr.heap.size wr W6 by
    rw [← hW6]
    have h5 : Below wr.heap.size wr w5 := BW4.out.trans (B5.out.mono BW4.out.size)
    exact (h5.setCell (p := ⟨w3.heap.size, 0, none⟩) (by simp only; have := HS3.out; omega) _).setCell (p := ⟨w3.heap.size, 1, none⟩) (by simp only; have := HS3.out; omega) _)
  have R6 := Lib.hid (show Recs (G6 G wr W6) W6 xb (.slice X xm xc) (if q = 0 then rs ++ [zs] else rs) xs from by
    have hA3 := ob_addr OB3.out
    have hw4 : W4.heap.size = w3.heap.size + 1 := by rw [← hW4]; simp
    have hss := HS3.out
    have hfr : ∀ j, FreshOr G W4 A3 j → j ≠ w3.heap.size ∧ (G j ∨ wr.heap.size ≤ j) := fun j hj => by
      rcases hj with hj | hj | ⟨ad, e, hj⟩
      · have := (HM.out.gs j hj).1; exact ⟨by omega, .inl hj⟩
      · exact ⟨by omega, .inr (by omega)⟩
      · have := hA3 ad e; have := HS1.out; exact ⟨by omega, .inr (by omega)⟩
    have h1 := R5.out.shut.stays (w' := W6) (fun j _ hj => HO56 j (hfr j hj.1).1)
    exact h1.wide (fun j hj => ⟨(hfr j hj.1).2, by rw [HSZ6]; exact hj.2⟩) (Nat.le_refl _))
  have O6 := Lib.hid (show W6.heap[wr.heap.size]? = some (.cells #[.int .i64 0, .int .i64 N, .slice A n cap, .slice K nk ck] 36 (0, 0)) from (HO56 _ (Nat.ne_of_lt HS3.out)).trans ((B5.out.block _ (Array.getElem?_eq_some_iff.1 O4.out).1).trans O4.out))
  have M6 := Lib.hid (HM.out.below BW6.out)
  have hS1 : W6.drew.cell? ⟨u, 1, none⟩ = some (.pointer (some ⟨L, 0, none⟩)) ∧ W6.drew.cell? ⟨wr.heap.size, 2, none⟩ = some (.slice A n cap) := ⟨M6.out.c1, cell_of_row _ _ 2 _ _ _ O6.out⟩
  have HFU := Lib.hid (show ∀ j, (F j ∨ j = L) → j ≠ u ∧ j < wr.heap.size from fun j hj => by
    rcases hj with hj | hj
    · exact ⟨(HM.out.fs j hj).2.2, (HM.out.fs j hj).2.1⟩
    · exact ⟨by rw [hj]; exact HM.out.l0.2, by rw [hj]; exact HU.out.llt⟩)
  obtain ⟨size, slot, m, stamp, used, count, hlg⟩ := HU.out.lg
  have hrc : refuseC true n = 7 := by unfold refuseC; rw [if_pos rfl]
  have CA := Lib.hid (wappend_refused (show LgAt W6.drew L d size slot m stamp used count true from (BW6.out.block _ hlg.lt).trans hlg) A n cap (by rw [hrc]; decide))
  rw [hrc] at CA
  have BD6 := Lib.hid (show Below wr.heap.size wr W6.drew from BW6.out.drew)
  have MD6 := Lib.hid (HM.out.below BD6.out)
  have k6 : W6.drew.cell? ⟨u, 6, none⟩ = some (.bool true) := MD6.out.c6
  have hk6 : W6.cell? ⟨u, 6, none⟩ = some (.bool true) := k6
  clear hW6 HSZ6 HO56 z0 z1 fz0 fz1 x2 x3 e0 hW4 hlg hrc
  go_region_held3 (fun w' => w'.cell? ⟨u, 1, none⟩ = some (.pointer (some ⟨L, 0, none⟩)) ∧ w'.cell? ⟨wr.heap.size, 2, none⟩ = some (.slice A n cap)) (exact hS1)
    (first | (go_at_call 25; go_loud (refine CA.out.mono ?_; rintro e w7 ⟨rfl, rfl⟩; clear CA)))
  all_goals
    go_wp2
    go_ret
    exact ⟨by simp, S, .inr ⟨_, _, (HH.out.below (by first | exact BD6.out | exact BW6.out)).more (Nat.le_succ _) (by omega)⟩, rfl, by omega, by omega, by omega⟩

set_option maxHeartbeats 4000000 in
theorem lw_over_chk {base wr : World} {u d : Nat} {S : St} {c : Nat} {rs alt : List (List Int)} (h : LwDn base wr u d S c rs alt) (hc : c < maxSt) (h0 : 0 ≤ S.writes) (h1 : S.writes ≤ 1152921504606846976) (N : Int) (A : Option Addr) (n cap : Nat) (zs : List Int)
    (hz : RB wr A n zs) (hA : ∀ ad, A = some ad → 0 < n → ad.block < base.heap.size) (hn : n ≤ cap) (hcap : cap ≤ 9223372036854775807) (hn2 : n ≤ 140737488355328) (K : Option Addr) (nk ck : Nat) :
    Calls Try.prog 14 #[.pointer (some ⟨u, 0, none⟩), .agg #[.int .i64 1, .int .i64 N, .slice A n cap, .slice K nk ck]] wr (LwIs base u d S (c + 1) (nblocks n)) := by
  have HH := Lib.hid h
  obtain ⟨L, F, G, v, mb, vs, us, hM, hU, hR, hRa, hused, hused2⟩ := h
  obtain ⟨Av, cv, rfl, -⟩ := hR.form
  have hlen := hz.len
  obtain ⟨k, hk⟩ : ∃ k, areaSize S.last.length = k := ⟨_, rfl⟩
  have hk2 : k ≤ 16384 := by rw [← hk]; exact area_le hU.lo.2
  rw [hk] at hM hused
  obtain ⟨W1, hW1⟩ : ∃ W, wr.alloc (.cells #[.int .i64 1, .int .i64 N, .slice A n cap, .slice K nk ck] 36) = W := ⟨_, rfl⟩
  have q1 := Lib.hid (show W1.heap[wr.heap.size]? = some (.cells #[.int .i64 1, .int .i64 N, .slice A n cap, .slice K nk ck] 36 (0, 0)) by rw [← hW1]; exact heap_alloc_new _ _)
  have b1 : Below wr.heap.size wr W1 := by rw [← hW1]; exact (Below.refl _ _).alloc (Nat.le_refl _) _
  have B1 := Lib.hid b1
  obtain ⟨W2, hW2⟩ : ∃ W, W1.alloc (.cells #[] 5) = W := ⟨_, rfl⟩
  have b2 : Below W1.heap.size W1 W2 := by rw [← hW2]; exact (Below.refl _ _).alloc (Nat.le_refl _) _
  have B2 := Lib.hid b2
  have OB2 := Lib.hid (show OB W1.heap.size W2 (.slice (some ⟨W1.heap.size, 0, none⟩) 0 0) [] by rw [← hW2]; exact ob_empty W1)
  have Z2 := Lib.hid ((hz.below' b1).below' b2)
  have e2 : W2.cell? ⟨wr.heap.size, 2, none⟩ = some (.slice A n cap) := keep_below (cell_of_row _ _ 2 _ _ _ q1.out) b2
  have HM := Lib.hid hM
  have HU := Lib.hid hU
  have HR := Lib.hid hR
  have HZ := Lib.hid hz
  have HA := Lib.hid hA
  have HK := Lib.hid hk
  have HUS := Lib.hid hused
  have HLN := Lib.hid hlen
  clear hM hU hR hz hA b1 b2 hk hused hlen
  go_enter Try.func14, Try.ntmps14
  go_upto_region 2 with (at_builtin; refine ob_append rfl (.tmp 9) (.tmp 11) rfl W1.heap.size _ [] rfl OB2.out A n cap zs rfl Z2.out (by simp only [List.length_nil]; omega) B2.out.size ?_; intro v3 w3 ob3 b3 gr3; have OB3 := Lib.hid ob3; have B3 := Lib.hid b3; clear gr3 ob3 b3)
  go_upto_region 4 with fail
  obtain ⟨A3, c3, rfl, rb3, hc3, hm3⟩ := OB3.out.form
  simp only [List.nil_append] at rb3 hc3 OB3 ⊢
  rw [HLN.out] at rb3 hc3 ⊢
  have B13 := Lib.hid (show Below W1.heap.size W1 w3 from B2.out.trans (B3.out))
  have BW3 := Lib.hid (show Below wr.heap.size wr w3 from B1.out.trans (B13.out.mono B1.out.size))
  have HS1 := Lib.hid (show wr.heap.size < W1.heap.size from (Array.getElem?_eq_some_iff.1 q1.out).1)
  obtain ⟨W4, hW4⟩ : ∃ W, w3.alloc (.cells #[.int .i64 0, .slice none 0 0] 27) = W := ⟨_, rfl⟩
  have q4 := Lib.hid (show W4.heap[w3.heap.size]? = some (.cells #[.int .i64 0, .slice none 0 0] 27 (0, 0)) by rw [← hW4]; exact heap_alloc_new _ _)
  have b4 : Below w3.heap.size w3 W4 := by rw [← hW4]; exact (Below.refl _ _).alloc (Nat.le_refl _) _
  have BW4 := Lib.hid (show Below wr.heap.size wr W4 from BW3.out.trans (b4.mono BW3.out.size))
  have O4 := Lib.hid (show W4.heap[wr.heap.size]? = some (.cells #[.int .i64 1, .int .i64 N, .slice A n cap, .slice K nk ck] 36 (0, 0)) from (b4.block _ (by have := HS1.out; have := B13.out.size; omega)).trans ((B13.out.block _ HS1.out).trans q1.out))
  have RB4 := Lib.hid (rb3.below' b4)
  have HC3 := Lib.hid hc3
  have HM3 := Lib.hid (show c3 ≤ 9223372036854775807 by simp only [maxLen] at hm3; omega)
  have e0 : W4.cell? ⟨wr.heap.size, 0, none⟩ = some (.int .i64 1) := cell_of_row _ _ 0 _ _ _ O4.out
  have M4 := Lib.hid (HM.out.below BW4.out)
  have x2 := M4.out.c2
  have x3 := M4.out.c3
  have CR := Lib.hid (ref_check W4 k G 0 _ rs vs (HR.out.below BW4.out) A3 n c3 zs RB4.out hc3 HM3.out hk2)
  rw [hW4]
  obtain ⟨q, hq⟩ : ∃ q, ansA zs.length 0 k = q := ⟨_, rfl⟩
  rw [hq] at CR
  have HQ := Lib.hid hq
  clear rb3 hc3 hm3 b4 e2 hq hW1 hW2
  go_upto_region 8 with (go_at_call 33; go_loud (refine CR.out.mono ?_; rintro e w5 ⟨X, xm, xc, xs, xb, rfl, b5, r5⟩; have B5 := Lib.hid b5; have R5 := Lib.hid r5; have z0 : w5.cell? ⟨w3.heap.size, 0, none⟩ = some (.int .i64 0) := keep_below (cell_of_row _ _ 0 _ _ _ q4.out) b5; have z1 : w5.cell? ⟨w3.heap.size, 1, none⟩ = some (.slice none 0 0) := keep_below (cell_of_row _ _ 1 _ _ _ q4.out) b5; have fz0 : w5.frozen? ⟨w3.heap.size, 0, none⟩ = false := frozen_of_row _ _ _ _ _ ((b5.block _ (Array.getElem?_eq_some_iff.1 q4.out).1).trans q4.out); have fz1 : w5.frozen? ⟨w3.heap.size, 1, none⟩ = false := frozen_of_row _ _ _ _ _ ((b5.block _ (Array.getElem?_eq_some_iff.1 q4.out).1).trans q4.out); clear b5 r5 CR))
  obtain ⟨W6, hW6⟩ : ∃ W, (w5.setCell ⟨w3.heap.size, 0, none⟩ (.int .i64 (k : Int))).setCell ⟨w3.heap.size, 1, none⟩ (.slice X xm xc) = W := ⟨_, rfl⟩
  rw [hW6]
  have HS3 := Lib.hid (show wr.heap.size < w3.heap.size by have := HS1.out; have := B13.out.size; omega)
  have HSZ6 : W6.heap.size = w5.heap.size := by rw [← hW6]; simp [World.setCell]
  have q6 := Lib.hid (show W6.heap[w3.heap.size]? = some (.cells #[.int .i64 (k : Int), .slice X xm xc] 27 (0, 0)) by
    rw [← hW6]
    have := blk_set (blk_set ((B5.out.block _ (Array.getElem?_eq_some_iff.1 q4.out).1).trans q4.out) 0 (.int .i64 (k : Int))) 1 (.slice X xm xc)
    exact this)
  have HO56 : ∀ j, j ≠ w3.heap.size → W6.heap[j]? = w5.heap[j]? := fun j hj => by rw [← hW6]; exact (heap_setCell_ne _ _ _ _ j hj).trans (heap_setCell_ne _ _ _ _ j hj)
  have BW6 := Lib.hid (show Below wr.heap.size wr W6 by
    rw [← hW6]
    have h5 : Below wr.heap.size wr w5 := BW4.out.trans (B5.out.mono BW4.out.size)
    exact (h5.setCell (p := ⟨w3.heap.size, 0, none⟩) (by simp only; have := HS3.out; omega) _).setCell (p := ⟨w3.heap.size, 1, none⟩) (by simp only; have := HS3.out; omega) _)
  have R6 := Lib.hid (show Recs (G6 G wr W6) W6 xb (.slice X xm xc) (if q = 0 then [zs] else rs) xs from by
    have hA3 := ob_addr OB3.out
    have hw4 : W4.heap.size = w3.heap.size + 1 := by rw [← hW4]; simp
    have hss := HS3.out
    have hfr : ∀ j, FreshOr G W4 A3 j → j ≠ w3.heap.size ∧ (G j ∨ wr.heap.size ≤ j) := fun j hj => by
      rcases hj with hj | hj | ⟨ad, e, hj⟩
      · have := (HM.out.gs j hj).1; exact ⟨by omega, .inl hj⟩
      · exact ⟨by omega, .inr (by omega)⟩
      · have := hA3 ad e; have := HS1.out; exact ⟨by omega, .inr (by omega)⟩
    have h1 := R5.out.shut.stays (w' := W6) (fun j _ hj => HO56 j (hfr j hj.1).1)
    exact h1.wide (fun j hj => ⟨(hfr j hj.1).2, by rw [HSZ6]; exact hj.2⟩) (Nat.le_refl _))
  have O6 := Lib.hid (show W6.heap[wr.heap.size]? = some (.cells #[.int .i64 1, .int .i64 N, .slice A n cap, .slice K nk ck] 36 (0, 0)) from (HO56 _ (Nat.ne_of_lt HS3.out)).trans ((B5.out.block _ (Array.getElem?_eq_some_iff.1 O4.out).1).trans O4.out))
  have M6 := Lib.hid (HM.out.below BW6.out)
  have hS1 : W6.drew.cell? ⟨u, 1, none⟩ = some (.pointer (some ⟨L, 0, none⟩)) ∧ W6.drew.cell? ⟨wr.heap.size, 2, none⟩ = some (.slice A n cap) := ⟨M6.out.c1, cell_of_row _ _ 2 _ _ _ O6.out⟩
  have HFU := Lib.hid (show ∀ j, (F j ∨ j = L) → j ≠ u ∧ j < wr.heap.size from fun j hj => by
    rcases hj with hj | hj
    · exact ⟨(HM.out.fs j hj).2.2, (HM.out.fs j hj).2.1⟩
    · exact ⟨by rw [hj]; exact HM.out.l0.2, by rw [hj]; exact HU.out.llt⟩)
  obtain ⟨size, slot, m, stamp, used, count, hlg⟩ := HU.out.lg
  have hrc : refuseC true n = 7 := by unfold refuseC; rw [if_pos rfl]
  have CA := Lib.hid (wcheck_refused (show LgAt W6.drew L d size slot m stamp used count true from (BW6.out.block _ hlg.lt).trans hlg) A n cap (by rw [hrc]; decide))
  rw [hrc] at CA
  have BD6 := Lib.hid (show Below wr.heap.size wr W6.drew from BW6.out.drew)
  have MD6 := Lib.hid (HM.out.below BD6.out)
  have k6 : W6.drew.cell? ⟨u, 6, none⟩ = some (.bool true) := MD6.out.c6
  have hk6 : W6.cell? ⟨u, 6, none⟩ = some (.bool true) := k6
  clear hW6 HSZ6 HO56 z0 z1 fz0 fz1 x2 x3 e0 hW4 hlg hrc
  go_region_held3 (fun w' => w'.cell? ⟨u, 1, none⟩ = some (.pointer (some ⟨L, 0, none⟩)) ∧ w'.cell? ⟨wr.heap.size, 2, none⟩ = some (.slice A n cap)) (exact hS1)
    (first | (go_at_call 34; go_loud (refine CA.out.mono ?_; rintro e w7 ⟨rfl, rfl⟩; clear CA)))
  all_goals
    go_wp2
    go_ret
    exact ⟨by simp, S, .inr ⟨_, _, (HH.out.below (by first | exact BD6.out | exact BW6.out)).more (Nat.le_succ _) (by omega)⟩, rfl, by omega, by omega, by omega⟩
end Go.Proofs.Ythpbcibjohakkaa

/- The law's crash. -/
namespace Go.Proofs.Ythpbcibjohakkaa
set_option maxRecDepth 100000
set_option maxRecDepth 100000
open Go.RowKit

/-- Open of any disk that holds a log, whatever the plan. -/
theorem open_up {F : Nat → Prop} {w : World} {d : Nat} {S : St} {slot : Nat} {m : Mk} {stamp : Nat} {srs : List (Nat × List Int)} (h : PD F w d S) (ho : S.off = false) (hp : S.pend = []) (hli : LI S.last slot m stamp srs) (hF : ∀ k, F k → k < w.heap.size) :
    Calls Try.prog 23 #[.pointer (some ⟨d, 0, none⟩)] w fun e w' =>
      ∃ L X cx vs, e = .returned (.tuple #[.pointer (some ⟨L, 0, none⟩), .slice X (srs.map (·.2)).length cx, .int .i64 0]) ∧ w.heap.size ≤ L ∧ Below w.heap.size w w' ∧ Recs (fun k => L + 1 ≤ k) w' (L + 1) (.slice X (srs.map (·.2)).length cx) (srs.map (·.2)) vs ∧ Up F w' d L S stamp (srs.map (·.2)) := by
  refine (wopen h ho hp hli.lo (by rw [hli.mark]; exact hli.pos)).mono ?_
  rintro e w' ⟨L, v, vs, rfl, hlg, hrec, hL, hb⟩
  rw [hli.opens] at hlg hrec
  rw [hli.mark] at hlg
  simp only at hlg
  have hop := hli.opened
  have hle : topStamp m.since (piecesOf S.last (2 * areaSize S.last.length)) ≤ stamp := topStamp_most _ _ _ hli.since fun p hp => by
    unfold piecesOf at hp
    obtain ⟨i, hi, rfl⟩ := List.mem_map.1 hp
    exact hli.all i (List.mem_range.1 hi)
  have hlen := used_each (srs.map (·.2)) (areaSize S.last.length) hli.used (area_le hli.hi)
  have hR := hrec.recs (fun r hr => by have := hlen r hr; omega)
  obtain ⟨X, cx, rfl, -⟩ := hR.form
  exact ⟨L, X, cx, vs, rfl, hL, hb, hR, h.below hb, ho, hp, fun hf => absurd (hF L hf) (by omega), slot, m, _, srs, hop, hlg, rfl, hle⟩

/-- The law's memory and its disk, whatever the log. -/
structure LwD (base wr : World) (u d L k : Nat) (S : St) (F G : Nat → Prop) (v mb : Value) (met over : Bool) (rs : List (List Int)) (vs : List Value) : Prop where
  m : LwM base wr u d L k F G v mb met over
  pd : PD F wr d S
  hv : Recs G wr 0 v rs vs
section
variable {base wr w' : World} {u d L k : Nat} {S S' : St} {F G : Nat → Prop} {v mb : Value} {met over : Bool} {rs : List (List Int)} {vs : List Value}
theorem LwD.keep (h : LwD base wr u d L k S F G v mb met over rs vs) (ho : Out F wr w') {x : Value} {ys : List (List Int)} {zs : List Value} (hx : Recs G wr 0 x ys zs) : Recs G w' 0 x ys zs := hx.out ho fun j hj hf => (h.m.gs j hj).2.1 hf
theorem LwD.step (h : LwD base wr u d L k S F G v mb met over rs vs) (hp : PD (Gr F wr) w' d S') (ho : Out F wr w') : LwD base w' u d L k S' (fun j => Gr F wr j ∧ j < w'.heap.size) G v mb met over rs vs :=
  ⟨⟨(ho.block _ h.m.ult (fun hf => (h.m.fs _ hf).2.2 rfl)).trans h.m.blk, fun j hj => ⟨by
      rcases hj.1 with h1 | h1
      · exact (h.m.fs j h1).1
      · exact Nat.le_trans h.m.b.size h1, hj.2, by
      rcases hj.1 with h1 | h1
      · exact (h.m.fs j h1).2.2
      · have := h.m.ult; omega⟩, fun j hj => ⟨Nat.lt_of_lt_of_le (h.m.gs j hj).1 ho.size, fun hf => by
      rcases hf.1 with h1 | h1
      · exact (h.m.gs j hj).2.1 h1
      · have := (h.m.gs j hj).1; omega, (h.m.gs j hj).2.2⟩, h.m.u0, h.m.l0, h.m.b.trans (ho.below h.m.b.size (fun i hi hf => by have := (h.m.fs i hf).1; omega))⟩, hp.shut, h.keep ho h.hv⟩
theorem LwD.below (h : LwD base wr u d L k S F G v mb met over rs vs) (hb : Below wr.heap.size wr w') : LwD base w' u d L k S F G v mb met over rs vs := ⟨h.m.below hb, h.pd.below hb, h.hv.below hb⟩
end
/-- What a crash of the law's begins with. -/
def LwAny (base wr : World) (u d : Nat) (S : St) (c : Nat) : Prop :=
  ∃ L F G v mb met over rs vs, LwD base wr u d L (areaSize S.last.length) S F G v mb met over rs vs ∧ S.pend.length ≤ 16384 ∧
    ∀ ks : List Int, ∃ slot m srs, LI (layAll S.last S.pend ks) slot m c srs ∧ (srs.map (·.2) = rs ∨ (met = true ∧ ∃ us, Recs G wr 0 mb (srs.map (·.2)) us))
theorem Lw.any {base wr : World} {u d : Nat} {S : St} {c : Nat} (h : Lw base wr u d S c) (hc : c ≤ maxSt) : LwAny base wr u d S c := by
  rcases h with ⟨rs, L, F, G, v, mb, vs, hM, hU, hR⟩ | ⟨rs, alt, L, F, G, v, mb, vs, us, hM, hD, hR, hRa, -⟩
  · refine ⟨L, F, G, v, mb, false, false, rs, vs, ⟨hM, hU.pd, hR⟩, by rw [hU.pend]; simp, fun ks => ?_⟩
    obtain ⟨slot, m, stamp, srs, hli, -, e, hle⟩ := hU.is
    refine ⟨slot, m, srs, ?_, .inl e.symm⟩
    rw [hU.pend]
    have : layAll S.last [] ks = S.last := by cases ks <;> rfl
    rw [this]
    exact hli.more hle hc
  · refine ⟨L, F, G, v, mb, true, true, rs, vs, ⟨hM, hD.pd, hR⟩, hD.few, fun ks => ?_⟩
    obtain ⟨slot, m, srs, hli, e⟩ := hD.alts ks
    refine ⟨slot, m, srs, hli, ?_⟩
    rcases e with e | e
    · exact .inl e
    · exact .inr ⟨rfl, us, by rw [e]; exact hRa⟩
/-- Behind the crash's call of Crash. -/
def crS (S : St) (ks : List Int) : St := { S with last := layAll S.last S.pend ks, pend := [], off := false, plan := -1 }
theorem crash_ok {S : St} {ks : List Int} (h : crashE S ks = 0) : crashS S ks = crS S ks := by
  unfold crashE at h
  unfold crashS crS
  split at h
  · cases h
  · rename_i h1
    rw [if_neg h1]
    split at h
    · rename_i h2
      rw [if_pos h2]
    · cases h
theorem crash_bad {S : St} {ks : List Int} (h : crashE S ks ≠ 0) : crashS S ks = S ∧ crashE S ks = 1 := by
  unfold crashE at h ⊢
  unfold crashS
  split
  · exact ⟨rfl, rfl⟩
  · rename_i h1
    rw [if_neg h1] at h
    split
    · rename_i h2
      rw [if_pos h2] at h
      exact absurd rfl h
    · exact ⟨rfl, rfl⟩
theorem crash_nil (S : St) : crashS S [] = crS S [] ∧ crashE S [] = 0 := by
  have : crashE S [] = 0 := by unfold crashE; simp
  exact ⟨crash_ok this, this⟩
theorem ri_none (w : World) : RI w none 0 [] := ⟨rfl, fun z hz => by simp at hz, fun h => by omega⟩
def plS (S : St) (n : Int) : St := { S with plan := max n (-1) }
theorem planS_on {S : St} (h : S.off = false) (n : Int) : planS S n = plS S n := by unfold planS plS; rw [if_neg (by simp [h])]
theorem Up.replan {F F' : Nat → Prop} {w w' : World} {d L : Nat} {S : St} {c : Nat} {rs : List (List Int)} {n : Int} (h : Up F w d L S c rs) (ho : Out F w w') (hp : PD F' w' d (plS S n)) (hL : ¬ F' L) : Up F' w' d L (plS S n) c rs := by
  obtain ⟨slot, m, stamp, srs, hli, hl, e, hc⟩ := h.is
  exact ⟨hp, h.off, h.pend, hL, slot, m, stamp, srs, hli, (ho.block _ hl.lt h.out).trans hl, e, hc⟩
end Go.Proofs.Ythpbcibjohakkaa
