/- The walk of DiskLoads: true whatever comes in. -/
import Derived.Test.YtapjgancaldgaaaRLoad
import Derived.Test.YtapjgancaldgaaaRStep
namespace Go.Proofs.Ytapjgancaldgaaa
set_option maxRecDepth 100000
open Go.RowKit

theorem bl_load {w w1 w2 w3 : World} {d : Nat} {S : St} {o : Obj} (b1 : Below w.heap.size w w1) (hp : PD (fun k => w1.heap.size ≤ k) w2 d S) (b2 : Below w1.heap.size w1 w2) (b3 : Below w2.heap.size w2 w3) (hr : RD (fun k => w2.heap.size ≤ k) (w3.alloc o) w3.heap.size S) :
    BL w (w3.alloc o) d w3.heap.size S S (fun k => w1.heap.size ≤ k ∧ k < w2.heap.size) (fun k => w2.heap.size ≤ k ∧ k < (w3.alloc o).heap.size) := by
  have b4 : Below w2.heap.size w2 (w3.alloc o) := b3.alloc b3.size o
  refine ⟨⟨hp.shut.below b4, hr.mono (fun k hk hf => ⟨hf, hk⟩), fun k h1 h2 => by have := h1.2; have := h2.1; omega, fun k h => Nat.lt_of_lt_of_le h.2 b4.size, fun k h => h.2⟩, fun k h => Nat.le_trans b1.size h.1, fun k h => Nat.le_trans (Nat.le_trans b1.size b2.size) h.1, ?_⟩
  exact (b1.trans (b2.mono b1.size)).trans (b4.mono (Nat.le_trans b1.size b2.size))

set_option maxHeartbeats 8000000 in
theorem walk_DiskLoads (A0 : Option Addr) (n0 c0 : Nat) (z0 : List Int) (A1 : Option Addr) (n1 c1 : Nat) (z1 : List Int) (A2 : Option Addr) (n2 c2 : Nat) (z2 : List OpD) (w : World) (h0 : RB w A0 n0 z0) (hn0 : n0 ≤ c0) (hc0 : c0 ≤ 140737488351232) (h1 : RI w A1 n1 z1) (hn1 : n1 ≤ c1) (hc1 : c1 ≤ 17592186043904) (h2 : RO w A2 n2 z2) (hn2 : n2 ≤ c2) (hc2 : c2 ≤ 2199023255488) :
    Calls Try.prog 4 #[.slice A0 n0 c0, .slice A1 n1 c1, .slice A2 n2 c2] w fun e w' => e = .returned (.bool true) ∧ Below w.heap.size w w' := by
  have cl := Lib.hid (dload w A0 n0 c0 z0 h0 hn0 (by omega) A1 n1 c1 z1 h1 (by omega))
  have H0 := Lib.hid h0
  have H1 := Lib.hid h1
  have H2 := Lib.hid h2
  have HN0 := Lib.hid hn0
  have HC0 := Lib.hid hc0
  have HN1 := Lib.hid (show n1 ≤ 140737488355328 by omega)
  clear h0 h1 h2
  by_cases hgood : loadGood z0 z1
  · have HGD := Lib.hid hgood
    clear hgood
    go_enter Try.func4, Try.ntmps4
    go_upto_region 3 with (first
      | (go_at_call 22; go_loud (refine cl.out.mono ?_; rintro e w2 (⟨h, -, -⟩ | ⟨-, d, rfl, hp, b2⟩); exact absurd HGD.out h; have P2 := Lib.hid hp; have B2 := Lib.hid b2; clear hp b2 cl))
      | (go_at_call 23; go_loud (refine (rload w2 A0 n0 c0 z0 (H0.out.below' B2.out) HN0.out (by have := HC0.out; omega) A1 n1 c1 z1 (H1.out.below B2.out) HN1.out).mono ?_; rintro e w3 (⟨h, -, -⟩ | ⟨-, m, gd, cd, gt, ct, rfl, b3, hr⟩); exact absurd HGD.out h; have M4' := Lib.hid (bl_load (Below.refl _ _) P2.out B2.out b3 hr); clear b3 hr P2 B2)))
    obtain ⟨w4, hw4⟩ : ∃ W, (w3.alloc (.cells #[.bool true, .bool false, .int .i64 (-1), .slice (some ⟨gd, 0, none⟩) m cd, .slice (some ⟨gt, 0, none⟩) m ct, .slice none 0 0, .int .i64 0, .int .i64 0] 31)) = W := ⟨_, rfl⟩
    rw [hw4] at M4' ⊢
    obtain ⟨pp, hpp⟩ : ∃ pp, pp = w3.heap.size := ⟨_, rfl⟩
    rw [← hpp] at M4' ⊢
    have M4 := M4'
    have HPE := Lib.hid (show (loadS z0 z1).pend.length = 0 from rfl)
    obtain ⟨S0, hS0⟩ : ∃ S0, S0 = loadS z0 z1 := ⟨_, rfl⟩
    rw [← hS0] at M4 HPE
    clear hw4 M4' hpp hS0
    go_upto_region 10 with (go_at_call 21; go_loud (refine (limages M4.out.bm (by rw [HPE.out]; omega)).mono ?_; rintro e w5 ⟨rfl, b5⟩; have M5 := Lib.hid (M4.out.below b5); clear b5))
    go_loopw [42] (fun i wr => ∃ (k : Nat) (S : St) (F G : Nat → Prop), i = .int .i64 (k : Nat) ∧ k ≤ n2 ∧ BL w wr d pp S S F G ∧ S.pend.length ≤ k) (fun i _ => n2 - (intOf i).toNat)
    case atStart => exact ⟨0, S0, _, _, rfl, Nat.zero_le _, M5.out, Nat.le_of_eq HPE.out⟩
    case round =>
      obtain ⟨k, S, F, G, rfl, hk, hM, hP⟩ := hrel
      by_cases hlt : k < n2
      · obtain ⟨b, o, x, rfl, hx, hxis, hrow⟩ := H2.out.at_ hM.b hlt
        have HR := Lib.hid hrow
        have HI := Lib.hid (show (Try.prog.info? 37).map (·.size) = some [Value.int .i64 x.do_, .int .i64 x.n, .slice x.A1 x.n1 x.c1, .slice x.A2 x.n2 x.c2].length by rfl)
        have hki : (k : Int) < (n2 : Int) := by omega
        have HK := Lib.hid hlt
        have HP := Lib.hid hP
        have HX := Lib.hid hxis
        obtain ⟨W1, hW1⟩ : ∃ W, wr.alloc (.cells #[.int .i64 x.do_, .int .i64 x.n, .slice x.A1 x.n1 x.c1, .slice x.A2 x.n2 x.c2] 37) = W := ⟨_, rfl⟩
        have q0 : W1.heap[wr.heap.size]? = some (.cells #[.int .i64 x.do_, .int .i64 x.n, .slice x.A1 x.n1 x.c1, .slice x.A2 x.n2 x.c2] 37 (0, 0)) := by rw [← hW1]; exact heap_alloc_new _ _
        have N1 := Lib.hid (show BL w W1 d pp S S F G by rw [← hW1]; exact hM.alloc _)
        have a0_ : W1.cell? ⟨wr.heap.size, 0, none⟩ = some (.int .i64 x.do_) := by rw [cell_of_row _ _ _ _ _ _ q0]; rfl
        have a1_ : W1.cell? ⟨wr.heap.size, 1, none⟩ = some (.int .i64 x.n) := by rw [cell_of_row _ _ _ _ _ _ q0]; rfl
        have a2_ : W1.cell? ⟨wr.heap.size, 2, none⟩ = some (.slice x.A1 x.n1 x.c1) := by rw [cell_of_row _ _ _ _ _ _ q0]; rfl
        have a3_ : W1.cell? ⟨wr.heap.size, 3, none⟩ = some (.slice x.A2 x.n2 x.c2) := by rw [cell_of_row _ _ _ _ _ _ q0]; rfl
        have CS := Lib.hid (lstep N1.out (by omega) x hxis)
        clear hrow hx hM hP q0 hxis hlt
        go_wp2_with (first
          | (with_reducible refine wpList_load_mid rfl 37 (.tmp 44) rfl b (o + k * 4) rfl [.int .i64 x.do_, .int .i64 x.n, .slice x.A1 x.n1 x.c1, .slice x.A2 x.n2 x.c2] _ HR.out Try.underlying37 rfl HI.out ?_)
          | (go_at_call 20; go_loud (refine CS.out.mono ?_; rintro e w6 ⟨rfl, F6, G6, m6⟩; have M6 := Lib.hid m6; clear m6 CS)))
        go_roundw
        case rel => exact ⟨k + 1, _, _, _, by go_num, HK.out, M6.out, Nat.le_trans (step_pend S x) (Nat.succ_le_succ HP.out)⟩
        case measure => have := HK.out; simp [intOf]; omega
      · obtain rfl : k = n2 := by omega
        have CI := Lib.hid (limages hM.bm (by omega))
        have HB := Lib.hid hM.b
        clear hM hP hlt
        go_wp2_with (go_at_call 21; go_loud (refine CI.out.mono ?_; rintro e w8 ⟨rfl, b8⟩; have B8 := Lib.hid (HB.out.trans (b8.mono HB.out.size)); clear b8))
        go_ret
        exact ⟨rfl, B8.out⟩
  · have HBD := Lib.hid hgood
    clear hgood
    go_enter Try.func4, Try.ntmps4
    go_wp2_with (first
      | (go_at_call 22; go_loud (refine cl.out.mono ?_; rintro e w2 (⟨-, rfl, b2⟩ | ⟨h, -⟩); rotate_left; exact absurd h HBD.out; have B2 := Lib.hid b2; clear b2 cl))
      | (go_at_call 23; go_loud (refine (rload w2 A0 n0 c0 z0 (H0.out.below' B2.out) HN0.out (by have := HC0.out; omega) A1 n1 c1 z1 (H1.out.below B2.out) HN1.out).mono ?_; rintro e w3 (⟨-, rfl, b3⟩ | ⟨h, -⟩); rotate_left; exact absurd h HBD.out; have B3 := Lib.hid b3; clear b3)))
    go_ret
    exact ⟨rfl, (B2.out.trans (B3.out.mono B2.out.size)).alloc (Nat.le_trans B2.out.size B3.out.size) _⟩
end Go.Proofs.Ytapjgancaldgaaa
