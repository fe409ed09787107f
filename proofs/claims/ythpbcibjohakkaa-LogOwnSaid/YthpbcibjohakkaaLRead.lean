/- The small calls of package log that only read: bounds, number, text, next, there, newer, place. -/
import Derived.Test.YthpbcibjohakkaaJAO
import Derived.Test.YthpbcibjohakkaaJAP
import Derived.Test.YthpbcibjohakkaaJAL
import Derived.Test.YthpbcibjohakkaaJAR
import Derived.Test.YthpbcibjohakkaaJAM
namespace Go.Proofs.Ythpbcibjohakkaa
set_option maxRecDepth 100000
set_option maxRecDepth 100000
open Go.RowKit

theorem wbounds (num len : Nat) (w : World) (h1 : num ≤ 16384) (h2 : len ≤ 65536) :
    Calls Try.prog 60 #[.int .i64 (num : Int), .int .i64 (len : Int)] w fun e w' => e = .returned (.tuple #[.int .i64 ((num * 40 : Nat) : Int), .int .i64 ((min (num * 40 + 40) len : Nat) : Int)]) ∧ w = w' := by
  have q1 : (num : Int) * 40 ≤ 9223372036854775807 := by omega
  have q2 : (num : Int) * 40 + 40 ≤ 9223372036854775807 := by omega
  have q3 : (0 : Int) ≤ (num : Int) * 40 := by omega
  have HE := Lib.hid (show (min ((num : Int) * 40 + 40) (len : Int)) = ((min (num * 40 + 40) len : Nat) : Int) by omega)
  go_enter Try.func60, Try.ntmps60
  go_wp2
  go_ret2
  exact ⟨by rw [HE.out]; rfl, rfl⟩

theorem out_set (w : World) (R j : Nat) (v : Value) : Out (fun k => k = R) w (w.setCell ⟨R, j, none⟩ v) :=
  ⟨rfl, rfl, rfl, by simp [World.setCell], fun k _ hk => heap_setCell_ne _ _ _ _ k hk⟩

/-- A reader in memory. -/
structure RdAt (w : World) (R B : Nat) (r : Rd) : Prop where
  ex : ∃ A n c, w.heap[R]? = some (.cells #[.slice A n c, .bool r.bad] 106 (0, 0)) ∧ RB w A n r.rest ∧ n ≤ c ∧ (n ≤ 1048576 ∧ c ≤ 9223372036854775807) ∧ (∀ ad, A = some ad → 0 < n → ad.block < B) ∧ B ≤ R

theorem wnumber (w : World) (R B : Nat) (r : Rd) (h : RdAt w R B r) (most : Nat) (hm : most < 18446744073709551616) :
    Calls Try.prog 65 #[.pointer (some ⟨R, 0, none⟩), .int .u64 (most : Int)] w fun e w' => e = .returned (.int .u64 ((rdNum most r).1 : Int)) ∧ RdAt w' R B (rdNum most r).2 ∧ Out (fun k => k = R) w w' := by
  obtain ⟨A, n, c, hb, hr, hnc, hc, hA, hBR⟩ := h.ex
  have c0 : w.cell? ⟨R, 0, none⟩ = some (.slice A n c) := by rw [cell_of_row _ _ _ _ _ _ hb]; rfl
  have f0 : w.frozen? ⟨R, 0, none⟩ = false := frozen_of_row _ _ _ _ _ hb
  have c1 : w.cell? ⟨R, 1, none⟩ = some (.bool r.bad) := by rw [cell_of_row _ _ _ _ _ _ hb]; rfl
  have f1 : w.frozen? ⟨R, 1, none⟩ = false := frozen_of_row _ _ _ _ _ hb
  have ct := wtakeUint A n c r.rest 0 w hr (by omega) hnc
  obtain ⟨u, s, x, ht⟩ : ∃ u s x, takeUint r.rest 0 = (u, s, x) := ⟨_, _, _, rfl⟩
  rw [ht] at ct
  unfold Tuple3 at ct
  simp only at ct
  have HU := Lib.hid (show u < 18446744073709551616 by have := (takeUint_lt r.rest hr.byte 0).1; rw [ht] at this; exact this)
  unfold rdNum
  rw [ht]
  simp only
  by_cases hx : x = 0
  · subst hx
    by_cases hmu : most < u
    · rw [if_pos (.inr hmu)]
      have HE := Lib.hid (show RdAt (w.setCell ⟨R, 1, none⟩ (.bool true)) R B ⟨r.rest, true⟩ ∧ Out (fun k => k = R) w (w.setCell ⟨R, 1, none⟩ (.bool true)) from
        ⟨⟨A, n, c, by rw [blk_set hb]; rfl, ⟨hr.len, hr.byte, fun hn => by
          obtain ⟨ad, e, hcell⟩ := hr.cell hn
          exact ⟨ad, e, fun j hj => by rw [World.cell?_setCell_far _ _ _ _ (by rw [block_add]; exact Nat.ne_of_gt (Nat.lt_of_lt_of_le (hA ad e hn) hBR))]; exact hcell j hj⟩⟩, hnc, hc, hA, hBR⟩, out_set _ _ _ _⟩)
      have h1 : (most : Int) < (u : Int) := by omega
      have h1n : decide (most < u) = true := by simp; omega
      clear h hb hr hA hmu
      go_enter Try.func65, Try.ntmps65
      go_wp2_with (go_at_call 77; refine ct.mono ?_; rintro e w' ⟨rfl, rfl⟩)
      go_ret
      exact ⟨rfl, HE.out⟩
    · rw [if_neg (by simp; omega)]
      have hle := takeUint_in ht
      have hl := hr.len
      have hs : s ≤ n := by have := hle.2.1; simp at this; omega
      have hs1 := hle.2.2
      obtain ⟨ad, rfl, -⟩ := hr.cell (by omega)
      obtain ⟨b, o, rfl⟩ := spot_add (w := w) (rb_spot hr (by omega)).1
      have hcut := hr.cut (k := s) hs c hnc
      have hbR := hA _ rfl (by omega)
      simp only at hbR
      have h1 : decide ((most : Int) < (u : Int)) = false := by simp; omega
      have h1n : decide (most < u) = false := by simp; omega
      have q1 : (s : Int) ≤ (n : Int) := by omega
      have q2 : (s : Int) ≤ (c : Int) := by omega
      have q3 : (n : Int) ≤ (c : Int) := by omega
      have q4 : s ≤ n := hs
      by_cases hcs : c = s
      · subst hcs
        obtain rfl : n = c := by omega
        rw [if_pos rfl] at hcut
        have HE := Lib.hid (show RdAt (w.setCell ⟨R, 0, none⟩ (.slice (some ⟨b, o, none⟩) 0 0)) R B ⟨r.rest.drop n, r.bad⟩ ∧ Out (fun k => k = R) w (w.setCell ⟨R, 0, none⟩ (.slice (some ⟨b, o, none⟩) 0 0)) from by
          rw [Nat.sub_self] at hcut
          refine ⟨⟨some ⟨b, o, none⟩, 0, 0, by rw [blk_set hb]; rfl, ⟨hcut.len, hcut.byte, fun hn => absurd hn (by omega)⟩, Nat.le_refl _, by omega, fun ad e hn => absurd hn (by omega), hBR⟩, out_set _ _ _ _⟩)
        clear h hb hr hA hmu hcut hle hl hbR
        go_enter Try.func65, Try.ntmps65
        go_wp2_with (go_at_call 77; refine ct.mono ?_; rintro e w' ⟨rfl, rfl⟩)
        go_ret
        exact ⟨rfl, HE.out⟩
      · rw [if_neg hcs, Option.map_some, Addr.add_mid] at hcut
        have HE := Lib.hid (show RdAt (w.setCell ⟨R, 0, none⟩ (.slice (some ⟨b, o + s, none⟩) (n - s) (c - s))) R B ⟨r.rest.drop s, r.bad⟩ ∧ Out (fun k => k = R) w (w.setCell ⟨R, 0, none⟩ (.slice (some ⟨b, o + s, none⟩) (n - s) (c - s))) from by
          refine ⟨⟨some ⟨b, o + s, none⟩, n - s, c - s, by rw [blk_set hb]; rfl, ⟨hcut.len, hcut.byte, fun hn => ?_⟩, by omega, by omega, fun ad e hn => by cases e; exact hbR, hBR⟩, out_set _ _ _ _⟩
          obtain ⟨ad, e, hcell⟩ := hcut.cell hn
          cases e
          exact ⟨_, rfl, fun j hj => by rw [World.cell?_setCell_far _ _ _ _ (by rw [block_add]; exact Nat.ne_of_gt (Nat.lt_of_lt_of_le hbR hBR))]; exact hcell j hj⟩)
        clear h hb hr hA hmu hcut hle hl hbR
        go_enter Try.func65, Try.ntmps65
        go_wp2_with (go_at_call 77; refine ct.mono ?_; rintro e w' ⟨rfl, rfl⟩)
        go_ret
        exact ⟨rfl, HE.out⟩
  · rw [if_pos (.inl hx)]
    have HE := Lib.hid (show RdAt (w.setCell ⟨R, 1, none⟩ (.bool true)) R B ⟨r.rest, true⟩ ∧ Out (fun k => k = R) w (w.setCell ⟨R, 1, none⟩ (.bool true)) from
      ⟨⟨A, n, c, by rw [blk_set hb]; rfl, ⟨hr.len, hr.byte, fun hn => by
        obtain ⟨ad, e, hcell⟩ := hr.cell hn
        exact ⟨ad, e, fun j hj => by rw [World.cell?_setCell_far _ _ _ _ (by rw [block_add]; exact Nat.ne_of_gt (Nat.lt_of_lt_of_le (hA ad e hn) hBR))]; exact hcell j hj⟩⟩, hnc, hc, hA, hBR⟩, out_set _ _ _ _⟩)
    have h1 : ((x : Int) != 0) = true := by simp; omega
    clear h hb hr hA hx
    go_enter Try.func65, Try.ntmps65
    go_wp2_with (go_at_call 77; refine ct.mono ?_; rintro e w' ⟨rfl, rfl⟩)
    go_ret
    exact ⟨rfl, HE.out⟩

theorem wnumberI (w : World) (R B : Nat) (r : Rd) (h : RdAt w R B r) (m : Int) (most : Nat) (hI : m = (most : Int)) (hm : most < 18446744073709551616) :
    Calls Try.prog 65 #[.pointer (some ⟨R, 0, none⟩), .int .u64 m] w fun e w' => e = .returned (.int .u64 ((rdNum most r).1 : Int)) ∧ RdAt w' R B (rdNum most r).2 ∧ Out (fun k => k = R) w w' := by
  subst hI
  exact wnumber w R B r h most hm
theorem RdAt.stays {w w' : World} {R B : Nat} {r : Rd} (h : RdAt w R B r) (hk : ∀ k, k ≤ R → w'.heap[k]? = w.heap[k]?) : RdAt w' R B r := by
  obtain ⟨A, n, c, hb, hr, hnc, hc, hA, hBR⟩ := h.ex
  exact ⟨A, n, c, (hk R (Nat.le_refl _)).trans hb, ⟨hr.len, hr.byte, fun hn => by
    obtain ⟨ad, e, hcell⟩ := hr.cell hn
    exact ⟨ad, e, fun j hj => (World.cell?_of_block (by rw [block_add]; exact hk _ (Nat.le_of_lt (Nat.lt_of_lt_of_le (hA ad e hn) hBR)))).trans (hcell j hj)⟩⟩, hnc, hc, hA, hBR⟩

theorem wtext_ (w : World) (R B : Nat) (r : Rd) (h : RdAt w R B r) :
    Calls Try.prog 64 #[.pointer (some ⟨R, 0, none⟩)] w fun e w' => e = .returned (.string (strOfNums (rdText r).1)) ∧ RdAt w' R B (rdText r).2 ∧ Out (fun k => k = R) w w' := by
  obtain ⟨A, n, c, hb, hr, hnc, hc, hA, hBR⟩ := h.ex
  have c0 : w.cell? ⟨R, 0, none⟩ = some (.slice A n c) := by rw [cell_of_row _ _ _ _ _ _ hb]; rfl
  have f0 : w.frozen? ⟨R, 0, none⟩ = false := frozen_of_row _ _ _ _ _ hb
  have c1 : w.cell? ⟨R, 1, none⟩ = some (.bool r.bad) := by rw [cell_of_row _ _ _ _ _ _ hb]; rfl
  have f1 : w.frozen? ⟨R, 1, none⟩ = false := frozen_of_row _ _ _ _ _ hb
  have ct := wtakeText A n c r.rest 0 64 w hr (by omega) hnc (by omega)
  obtain ⟨u, s, x, ht⟩ : ∃ u s x, takeText r.rest 0 64 = (u, s, x) := ⟨_, _, _, rfl⟩
  rw [ht] at ct
  unfold TupleT at ct
  simp only at ct
  unfold rdText
  rw [ht]
  simp only
  by_cases hx : x = 0
  · subst hx
    rw [if_neg (by simp)]
    obtain ⟨u0, k0, hk1, hk2, hk3, hk4⟩ := takeText_ok ht
    have hle := takeUint_in hk1
    have hl := hr.len
    have hs : s ≤ n := by have := hle.2.1; simp at this hk3; omega
    have hs1 : 1 ≤ s := by have := hle.2.2; omega
    obtain ⟨ad, rfl, -⟩ := hr.cell (by omega)
    obtain ⟨b, o, rfl⟩ := spot_add (w := w) (rb_spot hr (by omega)).1
    have hcut := hr.cut (k := s) hs c hnc
    have hbR := hA _ rfl (by omega)
    simp only at hbR
    have q1 : (s : Int) ≤ (n : Int) := by omega
    have q2 : (s : Int) ≤ (c : Int) := by omega
    have q3 : (n : Int) ≤ (c : Int) := by omega
    have q4 : s ≤ n := hs
    by_cases hcs : c = s
    · subst hcs
      obtain rfl : n = c := by omega
      rw [if_pos rfl] at hcut
      have HE := Lib.hid (show RdAt (w.setCell ⟨R, 0, none⟩ (.slice (some ⟨b, o, none⟩) 0 0)) R B ⟨r.rest.drop n, r.bad⟩ ∧ Out (fun k => k = R) w (w.setCell ⟨R, 0, none⟩ (.slice (some ⟨b, o, none⟩) 0 0)) from by
        rw [Nat.sub_self] at hcut
        refine ⟨⟨some ⟨b, o, none⟩, 0, 0, by rw [blk_set hb]; rfl, ⟨hcut.len, hcut.byte, fun hn => absurd hn (by omega)⟩, Nat.le_refl _, by omega, fun ad e hn => absurd hn (by omega), hBR⟩, out_set _ _ _ _⟩)
      clear h hb hr hA hcut hle hl hbR hk1 hk2 hk3 hk4 ht
      go_enter Try.func64, Try.ntmps64
      go_wp2_with (go_at_call 76; refine ct.mono ?_; rintro e w' ⟨rfl, rfl⟩)
      go_ret
      exact ⟨rfl, HE.out⟩
    · rw [if_neg hcs, Option.map_some, Addr.add_mid] at hcut
      have HE := Lib.hid (show RdAt (w.setCell ⟨R, 0, none⟩ (.slice (some ⟨b, o + s, none⟩) (n - s) (c - s))) R B ⟨r.rest.drop s, r.bad⟩ ∧ Out (fun k => k = R) w (w.setCell ⟨R, 0, none⟩ (.slice (some ⟨b, o + s, none⟩) (n - s) (c - s))) from by
        refine ⟨⟨some ⟨b, o + s, none⟩, n - s, c - s, by rw [blk_set hb]; rfl, ⟨hcut.len, hcut.byte, fun hn => ?_⟩, by omega, by omega, fun ad e hn => by cases e; exact hbR, hBR⟩, out_set _ _ _ _⟩
        obtain ⟨ad, e, hcell⟩ := hcut.cell hn
        cases e
        exact ⟨_, rfl, fun j hj => by rw [World.cell?_setCell_far _ _ _ _ (by rw [block_add]; exact Nat.ne_of_gt (Nat.lt_of_lt_of_le hbR hBR))]; exact hcell j hj⟩)
      clear h hb hr hA hcut hle hl hbR hk1 hk2 hk3 hk4 ht
      go_enter Try.func64, Try.ntmps64
      go_wp2_with (go_at_call 76; refine ct.mono ?_; rintro e w' ⟨rfl, rfl⟩)
      go_ret
      exact ⟨rfl, HE.out⟩
  · rw [if_pos hx]
    have HE := Lib.hid (show RdAt (w.setCell ⟨R, 1, none⟩ (.bool true)) R B ⟨r.rest, true⟩ ∧ Out (fun k => k = R) w (w.setCell ⟨R, 1, none⟩ (.bool true)) from
      ⟨⟨A, n, c, by rw [blk_set hb]; rfl, ⟨hr.len, hr.byte, fun hn => by
        obtain ⟨ad, e, hcell⟩ := hr.cell hn
        exact ⟨ad, e, fun j hj => by rw [World.cell?_setCell_far _ _ _ _ (by rw [block_add]; exact Nat.ne_of_gt (Nat.lt_of_lt_of_le (hA ad e hn) hBR))]; exact hcell j hj⟩⟩, hnc, hc, hA, hBR⟩, out_set _ _ _ _⟩)
    have h1 : ((x : Int) != 0) = true := by simp; omega
    have HS := Lib.hid (show strOfNums [] = ByteArray.mk #[] from rfl)
    clear h hb hr hA hx ht
    go_enter Try.func64, Try.ntmps64
    go_wp2_with (go_at_call 76; refine ct.mono ?_; rintro e w' ⟨rfl, rfl⟩)
    go_ret
    exact ⟨rfl, HE.out⟩

/-- A piece as a value. -/
def PcIs (w : World) (p : Pc) (A : Option Addr) (n c : Nat) : Prop := RB w A n p.bytes ∧ n ≤ c ∧ (n ≤ 1048576 ∧ c ≤ 9223372036854775807)
def PcRet (w : World) (p : Pc) (e : Ending) (w' : World) : Prop :=
  ∃ A n c, e = .returned (.agg #[.int .u64 (p.stamp : Int), .int .i64 (p.len : Int), .int .i64 (p.num : Int), .slice A n c]) ∧ PcIs w' p A n c ∧ Below w.heap.size w w'

set_option maxHeartbeats 2000000 in
theorem wtakePiece (w : World) (A : Option Addr) (n c : Nat) (zs : List Int) (hr : RB w A n zs) (hn : n ≤ c) (hc : n ≤ 1048576 ∧ c ≤ 9223372036854775807) :
    Calls Try.prog 59 #[.slice A n c] w (PcRet w (takePiece zs)) := by
  obtain ⟨W3, hW3⟩ : ∃ W, ((w.alloc (.cells #[.int .u64 0, .int .i64 0, .int .i64 0, .slice none 0 0] 86)).alloc (.cells #[.slice A n c, .bool false] 106)).alloc (.cells #[.int .u64 0, .int .i64 0, .int .i64 0, .slice none 0 0] 86) = W := ⟨_, rfl⟩
  obtain ⟨q0, q1, q2⟩ := heap_alloc3 w (.cells #[.int .u64 0, .int .i64 0, .int .i64 0, .slice none 0 0] 86) (.cells #[.slice A n c, .bool false] 106) (.cells #[.int .u64 0, .int .i64 0, .int .i64 0, .slice none 0 0] 86)
  have hb3 := below_alloc3 w (.cells #[.int .u64 0, .int .i64 0, .int .i64 0, .slice none 0 0] 86) (.cells #[.slice A n c, .bool false] 106) (.cells #[.int .u64 0, .int .i64 0, .int .i64 0, .slice none 0 0] 86)
  rw [hW3] at q0 q1 q2 hb3
  have R3 := Lib.hid (show RdAt W3 (w.heap.size + 1) w.heap.size ⟨zs, false⟩ from ⟨A, n, c, q1, hr.below' (⟨hb3.os, hb3.tape, hb3.output, hb3.size, hb3.block⟩ : Below w.heap.size w W3), hn, hc, fun ad e h0 => rb_lt hr ad e h0, by omega⟩)
  have HB3 := Lib.hid (show Below w.heap.size w W3 from ⟨hb3.os, hb3.tape, hb3.output, hb3.size, hb3.block⟩)
  have Q0 := Lib.hid q0
  have Q2 := Lib.hid q2
  clear q0 q1 q2 hb3
  go_enter Try.func59, Try.ntmps59
  have HRR := Lib.hid hr
  clear hr
  obtain ⟨a, r1, h1⟩ : ∃ a r1, rdNum maxSt ⟨zs, false⟩ = (a, r1) := ⟨_, _, rfl⟩
  obtain ⟨b, r2, h2⟩ : ∃ b r2, rdNum 65536 r1 = (b, r2) := ⟨_, _, rfl⟩
  obtain ⟨d, r3, h3⟩ : ∃ d r3, rdNum 16384 r2 = (d, r3) := ⟨_, _, rfl⟩
  have hb : b ≤ 65536 := by have := rdNum_le 65536 r1; rw [h2] at this; exact this
  have hd : d ≤ 16384 := by have := rdNum_le 16384 r2; rw [h3] at this; exact this
  have hbi : (b : Int) ≤ 65536 := by omega
  have hdi : (d : Int) ≤ 16384 := by omega
  have HTP := Lib.hid (show takePiece zs = if r3.bad = true ∨ (r3.rest.length : Int) ≠ pieceLen d b then Pc.no else ⟨a, b, d, r3.rest⟩ by unfold takePiece; simp only [h1, h2, h3])
  have C1 := Lib.hid (show ∀ w', RdAt w' (w.heap.size + 1) w.heap.size ⟨zs, false⟩ → Calls Try.prog 65 #[.pointer (some ⟨w.heap.size + 1, 0, none⟩), .int .u64 9223372036854775807] w' fun e w2 => e = .returned (.int .u64 (a : Int)) ∧ RdAt w2 (w.heap.size + 1) w.heap.size r1 ∧ Out (fun k => k = w.heap.size + 1) w' w2 from fun w' h => by have := wnumberI w' _ _ _ h 9223372036854775807 maxSt rfl (by decide); rw [h1] at this; exact this)
  have C2 := Lib.hid (show ∀ w', RdAt w' (w.heap.size + 1) w.heap.size r1 → Calls Try.prog 65 #[.pointer (some ⟨w.heap.size + 1, 0, none⟩), .int .u64 65536] w' fun e w2 => e = .returned (.int .u64 (b : Int)) ∧ RdAt w2 (w.heap.size + 1) w.heap.size r2 ∧ Out (fun k => k = w.heap.size + 1) w' w2 from fun w' h => by have := wnumberI w' _ _ _ h 65536 65536 rfl (by decide); rw [h2] at this; exact this)
  have C3 := Lib.hid (show ∀ w', RdAt w' (w.heap.size + 1) w.heap.size r2 → Calls Try.prog 65 #[.pointer (some ⟨w.heap.size + 1, 0, none⟩), .int .u64 16384] w' fun e w2 => e = .returned (.int .u64 (d : Int)) ∧ RdAt w2 (w.heap.size + 1) w.heap.size r3 ∧ Out (fun k => k = w.heap.size + 1) w' w2 from fun w' h => by have := wnumberI w' _ _ _ h 16384 16384 rfl (by decide); rw [h3] at this; exact this)
  clear h1 h2 h3
  go_upto_region 4 with (go_at_call_of 65 (Value.int .u64 9223372036854775807); go_loud (refine (C1.out W3 R3.out).mono ?_; rintro e w4 ⟨rfl, r4, o4⟩; have R4 := Lib.hid r4; have O4 := Lib.hid o4; have Q4 := Lib.hid ((o4.block (w.heap.size + 2) (Array.getElem?_eq_some_iff.1 Q2.out).1 (by omega)).trans Q2.out); have k0 := cell_of_row w4 _ 0 _ _ _ Q4.out; have f0 := frozen_of_row w4 _ 0 _ _ Q4.out; clear r4 o4))
  obtain ⟨W5, hW5⟩ : ∃ W, w4.setCell ⟨w.heap.size + 2, 0, none⟩ (.int .u64 (a : Int)) = W := ⟨_, rfl⟩
  rw [show w.heap.size + 1 + 1 = w.heap.size + 2 from rfl, hW5]
  have R5 := Lib.hid (show RdAt W5 (w.heap.size + 1) w.heap.size r1 from R4.out.stays fun k hk => by rw [← hW5]; exact heap_setCell_ne _ _ _ _ k (by omega))
  have O5 := Lib.hid (show Out (fun k => k = w.heap.size + 1 ∨ k = w.heap.size + 2) W3 W5 by rw [← hW5]; exact (O4.out.mono fun _ _ h => .inl h).setCell (p := ⟨w.heap.size + 2, 0, none⟩) (.inl (.inr rfl)) _)
  have Q5 := Lib.hid (show W5.heap[w.heap.size + 2]? = some (.cells #[.int .u64 (a : Int), .int .i64 0, .int .i64 0, .slice none 0 0] 86 (0, 0)) by rw [← hW5, blk_set Q4.out]; rfl)
  clear hW5 k0 f0
  go_upto_region 5 with (go_at_call_of 65 (Value.int .u64 65536); go_loud (refine (C2.out W5 R5.out).mono ?_; rintro e w6 ⟨rfl, r6, o6⟩; have R6 := Lib.hid r6; have O6 := Lib.hid o6; have Q6 := Lib.hid ((o6.block (w.heap.size + 2) (Array.getElem?_eq_some_iff.1 Q5.out).1 (by omega)).trans Q5.out); have k1 := cell_of_row w6 _ 1 _ _ _ Q6.out; have f1 := frozen_of_row w6 _ 1 _ _ Q6.out; clear r6 o6))
  obtain ⟨W7, hW7⟩ : ∃ W, w6.setCell ⟨w.heap.size + 2, 1, none⟩ (.int .i64 (b : Int)) = W := ⟨_, rfl⟩
  rw [hW7]
  have R7 := Lib.hid (show RdAt W7 (w.heap.size + 1) w.heap.size r2 from R6.out.stays fun k hk => by rw [← hW7]; exact heap_setCell_ne _ _ _ _ k (by omega))
  have O7 := Lib.hid (show Out (fun k => k = w.heap.size + 1 ∨ k = w.heap.size + 2) W3 W7 by rw [← hW7]; exact (O5.out.then (O6.out.mono fun _ _ h => .inl h)).setCell (p := ⟨w.heap.size + 2, 1, none⟩) (.inl (.inr rfl)) _)
  have Q7 := Lib.hid (show W7.heap[w.heap.size + 2]? = some (.cells #[.int .u64 (a : Int), .int .i64 (b : Int), .int .i64 0, .slice none 0 0] 86 (0, 0)) by rw [← hW7, blk_set Q6.out]; rfl)
  clear hW7 k1 f1
  go_upto_region 6 with (go_at_call_of 65 (Value.int .u64 16384); go_loud (refine (C3.out W7 R7.out).mono ?_; rintro e w8 ⟨rfl, r8, o8⟩; have R8 := Lib.hid r8; have O8 := Lib.hid o8; have Q8 := Lib.hid ((o8.block (w.heap.size + 2) (Array.getElem?_eq_some_iff.1 Q7.out).1 (by omega)).trans Q7.out); have k2 := cell_of_row w8 _ 2 _ _ _ Q8.out; have f2 := frozen_of_row w8 _ 2 _ _ Q8.out; clear r8 o8))
  obtain ⟨W9, hW9⟩ : ∃ W, w8.setCell ⟨w.heap.size + 2, 2, none⟩ (.int .i64 (d : Int)) = W := ⟨_, rfl⟩
  rw [hW9]
  have R9 := Lib.hid (show RdAt W9 (w.heap.size + 1) w.heap.size r3 from R8.out.stays fun k hk => by rw [← hW9]; exact heap_setCell_ne _ _ _ _ k (by omega))
  have O9 := Lib.hid (show Out (fun k => k = w.heap.size + 1 ∨ k = w.heap.size + 2) W3 W9 by rw [← hW9]; exact (O7.out.then (O8.out.mono fun _ _ h => .inl h)).setCell (p := ⟨w.heap.size + 2, 2, none⟩) (.inl (.inr rfl)) _)
  have Q9 := Lib.hid (show W9.heap[w.heap.size + 2]? = some (.cells #[.int .u64 (a : Int), .int .i64 (b : Int), .int .i64 (d : Int), .slice none 0 0] 86 (0, 0)) by rw [← hW9, blk_set Q8.out]; rfl)
  clear hW9 k2 f2
  obtain ⟨A9, n9, c9, hb9, hr9, hnc9, hc9, hA9, -⟩ := R9.out.ex
  have s0 := cell_of_row W9 _ 0 _ _ _ hb9
  have s1 := cell_of_row W9 _ 1 _ _ _ hb9
  have p3 := cell_of_row W9 _ 3 _ _ _ Q9.out
  have e3 := frozen_of_row W9 _ 3 _ _ Q9.out
  obtain ⟨W10, hW10⟩ : ∃ W, W9.setCell ⟨w.heap.size + 2, 3, none⟩ (.slice A9 n9 c9) = W := ⟨_, rfl⟩
  have Q10 : W10.heap[w.heap.size + 2]? = some (.cells #[.int .u64 (a : Int), .int .i64 (b : Int), .int .i64 (d : Int), .slice A9 n9 c9] 86 (0, 0)) := by rw [← hW10, blk_set Q9.out]; rfl
  have b10 : W10.heap[w.heap.size + 1]? = some (.cells #[.slice A9 n9 c9, .bool r3.bad] 106 (0, 0)) := by rw [← hW10, heap_setCell_ne _ _ _ _ _ (by omega)]; exact hb9
  have O10 : Out (fun k => k = w.heap.size + 1 ∨ k = w.heap.size + 2) W3 W10 := by rw [← hW10]; exact O9.out.setCell (p := ⟨w.heap.size + 2, 3, none⟩) (.inl (.inr rfl)) _
  have BF := Lib.hid (show Below w.heap.size w W10 from HB3.out.trans (O10.below HB3.out.size fun i hi hf => by omega))
  have QZ := Lib.hid ((O10.block w.heap.size (by have := (Array.getElem?_eq_some_iff.1 Q0.out).1; exact this) (by omega)).trans Q0.out)
  have HR9 := Lib.hid (show RB W10 A9 n9 r3.rest from ⟨hr9.len, hr9.byte, fun h0 => by
    obtain ⟨ad, e, hcell⟩ := hr9.cell h0
    exact ⟨ad, e, fun j hj => (World.cell?_of_block (by rw [block_add, ← hW10]; exact heap_setCell_ne _ _ _ _ _ (by have := hA9 ad e h0; omega))).trans (hcell j hj)⟩⟩)
  have HA9 := Lib.hid (show ∀ ad, A9 = some ad → 0 < n9 → ad.block ≠ w.heap.size from fun ad e h0 => Nat.ne_of_lt (hA9 ad e h0))
  have HN9 := Lib.hid hr9.len
  have t0 := cell_of_row W10 _ 0 _ _ _ Q10
  have t1 := cell_of_row W10 _ 1 _ _ _ Q10
  have t2 := cell_of_row W10 _ 2 _ _ _ Q10
  have t3 := cell_of_row W10 _ 3 _ _ _ Q10
  have u1 := cell_of_row W10 _ 1 _ _ _ b10
  have HNC := Lib.hid hnc9
  have HC9 := Lib.hid hc9
  have HDD := Lib.hid hd
  have HBB := Lib.hid hb
  clear hb9 hr9 hA9 Q10 b10 O10
  go_upto_region 8 with (go_at_call 60; go_loud (refine (wbounds d b _ HDD.out HBB.out).mono ?_; rintro e w' ⟨rfl, rfl⟩))
  by_cases hbad : r3.bad = true
  · have HCOND := Lib.hid (show r3.bad = true ∨ (r3.rest.length : Int) ≠ pieceLen d b from .inl hbad)
    rw [hbad] at u1
    clear hbad
    have y0 := cell_of_row W10 _ 0 _ _ _ QZ.out
    have x0 := frozen_of_row W10 _ 0 _ _ QZ.out
    have y1 := cell_of_row W10 _ 1 _ _ _ QZ.out
    have x1 := frozen_of_row W10 _ 1 _ _ QZ.out
    have y2 := cell_of_row W10 _ 2 _ _ _ QZ.out
    have x2 := frozen_of_row W10 _ 2 _ _ QZ.out
    have y3 := cell_of_row W10 _ 3 _ _ _ QZ.out
    have x3 := frozen_of_row W10 _ 3 _ _ QZ.out
    obtain ⟨W11, hW11⟩ : ∃ W, ((((W10.setCell ⟨w.heap.size, 0, none⟩ (.int .u64 0)).setCell ⟨w.heap.size, 1, none⟩ (.int .i64 0)).setCell ⟨w.heap.size, 2, none⟩ (.int .i64 0)).setCell ⟨w.heap.size, 3, none⟩ (.slice none 0 0)) = W := ⟨_, rfl⟩
    have q8 : W11.heap[w.heap.size]? = some (.cells #[.int .u64 0, .int .i64 0, .int .i64 0, .slice none 0 0] 86 (0, 0)) := by
      rw [← hW11, blk_set (blk_set (blk_set (blk_set QZ.out 0 _) 1 _) 2 _) 3 _]
      rfl
    have g0 : W11.cell? ⟨w.heap.size, 0, none⟩ = some (.int .u64 0) := by rw [cell_of_row _ _ _ _ _ _ q8]; rfl
    have g1 : W11.cell? ⟨w.heap.size, 1, none⟩ = some (.int .i64 0) := by rw [cell_of_row _ _ _ _ _ _ q8]; rfl
    have g2 : W11.cell? ⟨w.heap.size, 2, none⟩ = some (.int .i64 0) := by rw [cell_of_row _ _ _ _ _ _ q8]; rfl
    have g3 : W11.cell? ⟨w.heap.size, 3, none⟩ = some (.slice none 0 0) := by rw [cell_of_row _ _ _ _ _ _ q8]; rfl
    have B8 := Lib.hid (show Below w.heap.size w W11 by
      rw [← hW11]
      exact (((BF.out.setCell (p := ⟨w.heap.size, 0, none⟩) (Nat.le_refl _) _).setCell (p := ⟨w.heap.size, 1, none⟩) (Nat.le_refl _) _).setCell (p := ⟨w.heap.size, 2, none⟩) (Nat.le_refl _) _).setCell (p := ⟨w.heap.size, 3, none⟩) (Nat.le_refl _) _)
    have HH8 := Lib.hid (show ∀ k, k ≠ w.heap.size → W11.heap[k]? = W10.heap[k]? from fun k hk => by
      rw [← hW11]
      iterate 4 rw [heap_setCell_ne _ _ _ _ k hk]
    )
    clear q8
    go_wp2
    refine bodyPost_ret (v := .agg #[.int .u64 0, .int .i64 0, .int .i64 0, .slice none 0 0]) (by simp [results, Try.results59, go_sem, g0, g1, g2, g3]) rfl ?_
    exact ⟨none, 0, 0, by rw [HTP.out, if_pos HCOND.out]; rfl, by rw [HTP.out, if_pos HCOND.out]; exact ⟨RB.empty _ _, Nat.le_refl _, by omega⟩, B8.out⟩
  · have hbad2 : r3.bad = false := by simpa using hbad
    rw [hbad2] at u1
    have hsub : ((min (d * 40 + 40) b : Nat) : Int) - (d : Int) * 40 = pieceLen d b := by unfold pieceLen; omega
    have hp1 : -9223372036854775808 ≤ ((min (d * 40 + 40) b : Nat) : Int) - (d : Int) * 40 := by omega
    have hp2 : ((min (d * 40 + 40) b : Nat) : Int) - (d : Int) * 40 ≤ 9223372036854775807 := by omega
    by_cases hl : (r3.rest.length : Int) ≠ pieceLen d b
    · have HCOND := Lib.hid (show r3.bad = true ∨ (r3.rest.length : Int) ≠ pieceLen d b from .inr hl)
      have hne : ((n9 : Int) != ((min (d * 40 + 40) b : Nat) : Int) - (d : Int) * 40) = true := by rw [hsub, ← HN9.out]; simpa using hl
      clear hbad hbad2 hsub hl
      have y0 := cell_of_row W10 _ 0 _ _ _ QZ.out
      have x0 := frozen_of_row W10 _ 0 _ _ QZ.out
      have y1 := cell_of_row W10 _ 1 _ _ _ QZ.out
      have x1 := frozen_of_row W10 _ 1 _ _ QZ.out
      have y2 := cell_of_row W10 _ 2 _ _ _ QZ.out
      have x2 := frozen_of_row W10 _ 2 _ _ QZ.out
      have y3 := cell_of_row W10 _ 3 _ _ _ QZ.out
      have x3 := frozen_of_row W10 _ 3 _ _ QZ.out
      obtain ⟨W11, hW11⟩ : ∃ W, ((((W10.setCell ⟨w.heap.size, 0, none⟩ (.int .u64 0)).setCell ⟨w.heap.size, 1, none⟩ (.int .i64 0)).setCell ⟨w.heap.size, 2, none⟩ (.int .i64 0)).setCell ⟨w.heap.size, 3, none⟩ (.slice none 0 0)) = W := ⟨_, rfl⟩
      have q8 : W11.heap[w.heap.size]? = some (.cells #[.int .u64 0, .int .i64 0, .int .i64 0, .slice none 0 0] 86 (0, 0)) := by
        rw [← hW11, blk_set (blk_set (blk_set (blk_set QZ.out 0 _) 1 _) 2 _) 3 _]
        rfl
      have g0 : W11.cell? ⟨w.heap.size, 0, none⟩ = some (.int .u64 0) := by rw [cell_of_row _ _ _ _ _ _ q8]; rfl
      have g1 : W11.cell? ⟨w.heap.size, 1, none⟩ = some (.int .i64 0) := by rw [cell_of_row _ _ _ _ _ _ q8]; rfl
      have g2 : W11.cell? ⟨w.heap.size, 2, none⟩ = some (.int .i64 0) := by rw [cell_of_row _ _ _ _ _ _ q8]; rfl
      have g3 : W11.cell? ⟨w.heap.size, 3, none⟩ = some (.slice none 0 0) := by rw [cell_of_row _ _ _ _ _ _ q8]; rfl
      have B8 := Lib.hid (show Below w.heap.size w W11 by
        rw [← hW11]
        exact (((BF.out.setCell (p := ⟨w.heap.size, 0, none⟩) (Nat.le_refl _) _).setCell (p := ⟨w.heap.size, 1, none⟩) (Nat.le_refl _) _).setCell (p := ⟨w.heap.size, 2, none⟩) (Nat.le_refl _) _).setCell (p := ⟨w.heap.size, 3, none⟩) (Nat.le_refl _) _)
      have HH8 := Lib.hid (show ∀ k, k ≠ w.heap.size → W11.heap[k]? = W10.heap[k]? from fun k hk => by
        rw [← hW11]
        iterate 4 rw [heap_setCell_ne _ _ _ _ k hk]
      )
      clear q8
      go_wp2
      refine bodyPost_ret (v := .agg #[.int .u64 0, .int .i64 0, .int .i64 0, .slice none 0 0]) (by simp [results, Try.results59, go_sem, g0, g1, g2, g3]) rfl ?_
      exact ⟨none, 0, 0, by rw [HTP.out, if_pos HCOND.out]; rfl, by rw [HTP.out, if_pos HCOND.out]; exact ⟨RB.empty _ _, Nat.le_refl _, by omega⟩, B8.out⟩
    · have HCOND := Lib.hid (show ¬ (r3.bad = true ∨ (r3.rest.length : Int) ≠ pieceLen d b) from by simp only [hbad2]; simp; simpa using hl)
      have hne : ((n9 : Int) != ((min (d * 40 + 40) b : Nat) : Int) - (d : Int) * 40) = false := by rw [hsub, ← HN9.out]; simpa using hl
      clear hbad hbad2 hsub hl
      have y0 := cell_of_row W10 _ 0 _ _ _ QZ.out
      have x0 := frozen_of_row W10 _ 0 _ _ QZ.out
      have y1 := cell_of_row W10 _ 1 _ _ _ QZ.out
      have x1 := frozen_of_row W10 _ 1 _ _ QZ.out
      have y2 := cell_of_row W10 _ 2 _ _ _ QZ.out
      have x2 := frozen_of_row W10 _ 2 _ _ QZ.out
      have y3 := cell_of_row W10 _ 3 _ _ _ QZ.out
      have x3 := frozen_of_row W10 _ 3 _ _ QZ.out
      obtain ⟨W11, hW11⟩ : ∃ W, ((((W10.setCell ⟨w.heap.size, 0, none⟩ (.int .u64 (a : Int))).setCell ⟨w.heap.size, 1, none⟩ (.int .i64 (b : Int))).setCell ⟨w.heap.size, 2, none⟩ (.int .i64 (d : Int))).setCell ⟨w.heap.size, 3, none⟩ (.slice A9 n9 c9)) = W := ⟨_, rfl⟩
      have q8 : W11.heap[w.heap.size]? = some (.cells #[.int .u64 (a : Int), .int .i64 (b : Int), .int .i64 (d : Int), .slice A9 n9 c9] 86 (0, 0)) := by
        rw [← hW11, blk_set (blk_set (blk_set (blk_set QZ.out 0 _) 1 _) 2 _) 3 _]
        rfl
      have g0 : W11.cell? ⟨w.heap.size, 0, none⟩ = some (.int .u64 (a : Int)) := by rw [cell_of_row _ _ _ _ _ _ q8]; rfl
      have g1 : W11.cell? ⟨w.heap.size, 1, none⟩ = some (.int .i64 (b : Int)) := by rw [cell_of_row _ _ _ _ _ _ q8]; rfl
      have g2 : W11.cell? ⟨w.heap.size, 2, none⟩ = some (.int .i64 (d : Int)) := by rw [cell_of_row _ _ _ _ _ _ q8]; rfl
      have g3 : W11.cell? ⟨w.heap.size, 3, none⟩ = some (.slice A9 n9 c9) := by rw [cell_of_row _ _ _ _ _ _ q8]; rfl
      have B8 := Lib.hid (show Below w.heap.size w W11 by
        rw [← hW11]
        exact (((BF.out.setCell (p := ⟨w.heap.size, 0, none⟩) (Nat.le_refl _) _).setCell (p := ⟨w.heap.size, 1, none⟩) (Nat.le_refl _) _).setCell (p := ⟨w.heap.size, 2, none⟩) (Nat.le_refl _) _).setCell (p := ⟨w.heap.size, 3, none⟩) (Nat.le_refl _) _)
      have HH8 := Lib.hid (show ∀ k, k ≠ w.heap.size → W11.heap[k]? = W10.heap[k]? from fun k hk => by
        rw [← hW11]
        iterate 4 rw [heap_setCell_ne _ _ _ _ k hk]
      )
      clear q8
      go_wp2
      refine bodyPost_ret (v := .agg #[.int .u64 (a : Int), .int .i64 (b : Int), .int .i64 (d : Int), .slice A9 n9 c9]) (by simp [results, Try.results59, go_sem, g0, g1, g2, g3]) rfl ?_
      exact ⟨A9, n9, c9, by rw [HTP.out, if_neg HCOND.out], by rw [HTP.out, if_neg HCOND.out]; exact ⟨⟨HR9.out.len, HR9.out.byte, fun h0 => by
        obtain ⟨ad, e, hcell⟩ := HR9.out.cell h0
        exact ⟨ad, e, fun j hj => (World.cell?_of_block (by rw [block_add]; exact HH8.out _ (HA9.out ad e h0))).trans (hcell j hj)⟩⟩, HNC.out, HC9.out⟩, B8.out⟩
end Go.Proofs.Ythpbcibjohakkaa
