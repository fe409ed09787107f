/- The walk of LogKeeps: true whatever comes in. -/
import Derived.Test.YthpbcibjohakkaaJBS
namespace Go.Proofs.Ythpbcibjohakkaa
set_option maxRecDepth 100000
set_option maxRecDepth 100000
open Go.RowKit

set_option maxHeartbeats 8000000 in
theorem walk_LogKeeps (a0 : Int) (A1 : Option Addr) (n1 c1 : Nat) (z1 : List OpD) (w : World) (ha0 : -9223372036854775808 ≤ a0 ∧ a0 ≤ 9223372036854775807) (h1 : RO w A1 n1 z1) (hn1 : n1 ≤ c1) (hc1 : c1 ≤ 2199023255488) :
    Calls Try.prog 3 #[.int .i64 a0, .slice A1 n1 c1] w fun e w' => e = .returned (.bool true) ∧ Below w.heap.size w w' := by
  have CB := Lib.hid (lbegun w a0 ha0)
  have H1 := Lib.hid h1
  clear h1
  go_enter Try.func3, Try.ntmps3
  by_cases hin : 6 ≤ a0 ∧ a0 ≤ 16384
  · have HIN := Lib.hid hin
    clear hin
    go_upto_region 2 with (go_at_call 8; go_loud (refine CB.out.mono ?_; rintro e w1 (⟨h, -⟩ | ⟨-, d, L, S, F, rfl, hb, hU, hF, hL, hw0, hw1⟩); exact absurd HIN.out h; unfold LwC; have HB := Lib.hid hb; have HU := Lib.hid hU; have HF := Lib.hid hF; have HL := Lib.hid hL; clear hb hU hF hL CB))
    obtain ⟨u, hu⟩ : ∃ u, w1.heap.size = u := ⟨_, rfl⟩
    obtain ⟨W2, hW2⟩ : ∃ W, w1.alloc (.cells #[.pointer (some ⟨d, 0, none⟩), .pointer (some ⟨L, 0, none⟩), .int .i64 (areaSize S.last.length : Nat), .slice none 0 0, .slice none 0 0, .bool false, .bool false] 29) = W := ⟨_, rfl⟩
    rw [hW2, hu]
    have L2 := Lib.hid (show Lw w W2 u d S 1 from by
      subst hu
      refine lw_start HB.out HU.out HF.out HL.out (Nat.le_refl _) (by rw [← hW2]; exact (Below.refl _ _).alloc (Nat.le_refl _) _) ?_
      rw [← hW2]
      exact heap_alloc_new _ _)
    clear hW2 hu
    go_upto_region 6 with (go_at_call 9; refine (wlive _).mono ?_; rintro e w' ⟨rfl, rfl⟩)
    go_upto_region 7 with fail
    have HW0 := Lib.hid hw0
    have HW1 := Lib.hid hw1
    clear hw0 hw1
    go_loopw [9, 26] (fun _ i wr => ∃ (k : Nat) (S' : St), i = .int .i64 (k : Nat) ∧ k ≤ n1 ∧ Lw w wr u d S' (1 + k) ∧ 0 ≤ S'.writes ∧ S'.writes ≤ 40000 + 16385 * (k : Int)) (fun _ i _ => n1 - (intOf i).toNat)
    case atStart => exact ⟨0, S, rfl, Nat.zero_le _, L2.out, HW0.out, by have := HW1.out; omega⟩
    case round =>
      obtain ⟨k, S', rfl, hk, hL, hs0, hs1⟩ := hrel
      clear L2
      by_cases hlt : k < n1
      · obtain ⟨b, o, x, rfl, hx, hxis, hrow⟩ := H1.out.at3 hL.base hlt
        obtain ⟨far1, far2⟩ := H1.out.at3far hx
        have HR := Lib.hid hrow
        have HI := Lib.hid (show (Try.prog.info? 36).map (·.size) = some [Value.int .i64 x.do_, .int .i64 x.n, .slice x.A1 x.n1 x.c1, .slice x.A2 x.n2 x.c2].length by rfl)
        have hki : (k : Int) < (n1 : Int) := by omega
        have HK := Lib.hid hlt
        obtain ⟨W1, hW1⟩ : ∃ W, wr.alloc (.cells #[.int .i64 x.do_, .int .i64 x.n, .slice x.A1 x.n1 x.c1, .slice x.A2 x.n2 x.c2] 36) = W := ⟨_, rfl⟩
        have q1 : W1.heap[wr.heap.size]? = some (.cells #[.int .i64 x.do_, .int .i64 x.n, .slice x.A1 x.n1 x.c1, .slice x.A2 x.n2 x.c2] 36 (0, 0)) := by rw [← hW1]; exact heap_alloc_new _ _
        have b1 : Below wr.heap.size wr W1 := by rw [← hW1]; exact (Below.refl _ _).alloc (Nat.le_refl _) _
        have e0 : W1.cell? ⟨wr.heap.size, 0, none⟩ = some (.int .i64 x.do_) := cell_of_row _ _ 0 _ _ _ q1
        have e1 : W1.cell? ⟨wr.heap.size, 1, none⟩ = some (.int .i64 x.n) := cell_of_row _ _ 1 _ _ _ q1
        have e2 : W1.cell? ⟨wr.heap.size, 2, none⟩ = some (.slice x.A1 x.n1 x.c1) := cell_of_row _ _ 2 _ _ _ q1
        have e3 : W1.cell? ⟨wr.heap.size, 3, none⟩ = some (.slice x.A2 x.n2 x.c2) := cell_of_row _ _ 3 _ _ _ q1
        have hm1 := hxis.m1
        have hl1 := hxis.l1
        have hm2 := hxis.m2
        have hl2 := hxis.l2
        have CD := Lib.hid (lw_does (hL.below b1) (by unfold maxSt; omega) hs0 (by omega) x.do_ x.n hxis.rn x.A1 x.n1 x.c1 x.z1 (hxis.b1.below' b1) far1 hl1 (by omega) (by omega) x.A2 x.n2 x.c2 x.z2 (hxis.b2.below b1) far2 (by omega))
        clear hrow hx hL q1 b1 hxis hlt far1 far2 hm1 hl1 hm2 hl2
        go_wp2_with (first
          | (with_reducible refine wpList_load_mid rfl 36 (.tmp 28) rfl b (o + k * 4) rfl [.int .i64 x.do_, .int .i64 x.n, .slice x.A1 x.n1 x.c1, .slice x.A2 x.n2 x.c2] _ HR.out Try.underlying36 rfl HI.out ?_)
          | (go_at_call 10; go_loud (refine CD.out.mono ?_; rintro e w5 ⟨rfl, S5, l5, -, g1, -, g2⟩; have L5 := Lib.hid l5; clear l5 CD)))
        go_roundw
        case rel => exact ⟨k + 1, S5, by go_num, HK.out, L5.out, by omega, by omega⟩
        case measure => have := HK.out; simp [intOf]; omega
      · obtain rfl : k = n1 := by omega
        have C1 := Lib.hid (lw_crash hL (by unfold maxSt; omega) none 0 0 [] (ri_none wr) (fun ad e => by cases e) (by omega) (-1) (by omega))
        have HS := Lib.hid hs1
        have HS0 := Lib.hid hs0
        clear hL hlt hs0 hs1
        go_wp2_with (first
          | (go_at_call 11; refine C1.out.mono ?_; rintro e w5 ⟨rfl, S5, l5, -, g1, -, g2⟩; have C2 := Lib.hid (lw_crash l5 (by unfold maxSt; omega) none 0 0 [] (ri_none w5) (fun ad e => by cases e) (by omega) (-1) (by omega)); clear l5 C1)
          | (go_at_call 11; go_loud (refine C2.out.mono ?_; rintro e w6 ⟨rfl, S6, l6, -, g3, -, g4⟩; have C3 := Lib.hid (lw_does l6 (by unfold maxSt; omega) (by have := HS0.out; omega) (by have := HS.out; omega) 4 0 (by omega) none 0 0 [] (RB.empty w6 _) (fun ad e => by cases e) (by omega) (by omega) (by omega) none 0 0 [] (ri_none w6) (fun ad e => by cases e) (by omega)); clear l6 C2))
          | (go_at_call 10; go_loud (refine C3.out.mono ?_; rintro e w7 ⟨rfl, S7, l7, -⟩; have L7 := Lib.hid l7; clear l7 C3)))
        go_ret
        exact ⟨rfl, L7.out.base⟩
  · go_wp2_with (first
      | (go_at_call 8; go_loud (refine CB.out.mono ?_; rintro e w1 (⟨-, rfl, hb⟩ | ⟨h, -⟩); rotate_left; exact absurd h hin; unfold zeroW; have HB := Lib.hid hb; clear CB hb))
      | (go_at_call 9; refine (wlive _).mono ?_; rintro e w' ⟨rfl, rfl⟩))
    go_ret
    exact ⟨rfl, HB.out.alloc HB.out.size _⟩
end Go.Proofs.Ythpbcibjohakkaa
