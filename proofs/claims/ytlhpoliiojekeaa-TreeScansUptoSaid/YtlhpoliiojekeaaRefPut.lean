/- The reference's Put. -/
import Derived.Test.YtlhpoliiojekeaaPL
namespace Go.Proofs.Ytlhpoliiojekeaa
set_option maxRecDepth 100000
open Go.RowKit

theorem run_uptoP (W : World) (A : Option Addr) (n c t : Nat) (ht : t ≤ c) :
    (Instr.slice 25 (.slice A n c) none (some (.int .i64 (t : Int))) none).run Try.prog W = .ok (.slice A t c) W := by
  obtain ⟨i0, hi, hz0, hz1, hz2⟩ := info_parts info_pair
  rw [run_slice_h W 25 A n c Try.underlying25 .i64 (t : Int) (by omega) (by omega)]
  rw [show Try.prog.elem 25 = 43 by kernel_rfl]
  have hs : (sizeOf 43).run Try.prog W = .ok 2 W := by simp [sizeOf, typeInfo, hi, hz1]
  rw [hs]
  simp [sliced, Result.andThen_ok]
  intro _
  cases A <;> simp [Addr.add]
theorem run_fromP (W : World) (A : Option Addr) (n c f : Nat) (hf : f ≤ n) (hn : n ≤ c) :
    (Instr.slice 25 (.slice A n c) (some (.int .i64 (f : Int))) none none).run Try.prog W = .ok (.slice (if c = f then A else A.map (·.add (f * 2))) (n - f) (c - f)) W := by
  obtain ⟨i0, hi, hz0, hz1, hz2⟩ := info_parts info_pair
  rw [run_slice_l W 25 A n c Try.underlying25 .i64 (f : Int) (by omega) (by omega)]
  rw [show Try.prog.elem 25 = 43 by kernel_rfl]
  have hs : (sizeOf 43).run Try.prog W = .ok 2 W := by simp [sizeOf, typeInfo, hi, hz1]
  rw [hs]
  simp only [sliced, Result.andThen_ok, Int.toNat_natCast]
theorem PB.take {w : World} {A : Option Addr} {n k : Nat} {ps : List Pr} (h : PB w A n ps) (hk : k ≤ n) : PB w A k (ps.take k) :=
  ⟨by rw [List.length_take, h.1]; omega, by rw [cellsP_take]; exact h.2.take (by omega)⟩
theorem PB.cut {w : World} {A : Option Addr} {n k c : Nat} {ps : List Pr} (h : PB w A n ps) (hk : k ≤ n) (hc : n ≤ c) : PB w (if c = k then A else A.map (·.add (k * 2))) (n - k) (ps.drop k) := by
  refine ⟨by rw [List.length_drop, h.1], ?_⟩
  have h1 := h.2.cut (k := 2 * k) (by omega) (2 * c) (by omega)
  rw [cellsP_drop, show 2 * (n - k) = 2 * n - 2 * k by omega]
  by_cases e : c = k
  · rw [if_pos e]; rw [if_pos (by omega)] at h1; exact h1
  · rw [if_neg e, Nat.mul_comm k 2]; rw [if_neg (by omega)] at h1; exact h1
theorem PB.gw {w w' : World} {A : Option Addr} {n : Nat} {ps : List Pr} (h : PB w A n ps) (g : Gw w w') : PB w' A n ps := ⟨h.1, h.2.gw g⟩
theorem PB.bl {W : World} {b : Nat} {k : ByteArray} {z : Int} (h : Bl W b [.string k, .int .i64 z]) : PB W (some ⟨b, 0, none⟩) 1 [(k, z)] :=
  ⟨rfl, h.vb (by simp; exact ⟨rfl, rfl⟩) rfl⟩

set_option maxHeartbeats 8000000 in
theorem wrefPut {w : World} {A : Option Addr} {n c : Nat} {ps : List Pr} (hr : PB w A n ps) (hn : n ≤ 4000000) (hc : n ≤ c) (k : ByteArray) (z : Int) :
    Calls Try.prog 26 #[.slice A n c, .string k, .int .i64 z] w fun e w' => ∃ v, e = .returned v ∧ PO w.heap.size w' v (putP ps k z) ∧ Gw w w' := by
  have CR := Lib.hid (wrefRank (c := c) hr (by omega) k)
  have CH := Lib.hid fun W (hW : Gw w W) => wrefHas (c := c) (hr.gw hW) (by omega) k
  have hrl := rk_has_le ps k
  have hl := hr.1
  obtain ⟨q, hq⟩ : ∃ q, rk (keys ps) k = q := ⟨_, rfl⟩
  obtain ⟨r, hr'⟩ : ∃ r, q + (if has (keys ps) k then 1 else 0) = r := ⟨_, rfl⟩
  rw [hq] at CR hrl
  rw [hr', hl] at hrl
  have hqr : q ≤ n := by split at hr' <;> omega
  obtain ⟨A', hA'⟩ : ∃ A', (if c = r then A else A.map (·.add (r * 2))) = A' := ⟨_, rfl⟩
  have q1 : ∀ W, (Instr.slice 25 (.slice A n c) none (some (.int .i64 (q : Int))) none).run Try.prog W = .ok (.slice A q c) W := fun W => run_uptoP W A n c q (by omega)
  have q2 : ∀ W, (Instr.slice 25 (.slice A n c) (some (.int .i64 (r : Int))) none none).run Try.prog W = .ok (.slice A' (n - r) (c - r)) W := fun W => by rw [← hA']; exact run_fromP W A n c r hrl hc
  have P1 := Lib.hid fun W (hW : Gw w W) => (hr.gw hW).take hqr
  have P2 := Lib.hid fun W (hW : Gw w W) => (show PB W A' (n - r) (ps.drop r) by rw [← hA']; exact (hr.gw hW).cut hrl hc)
  have HP := Lib.hid (show ([] : List Pr) ++ ps.take q ++ [(k, z)] ++ ps.drop r = putP ps k z by simp [putP, hq, ← hr'])
  have L1 := Lib.hid (show (ps.take q).length = q by rw [List.length_take]; omega)
  have L2 := Lib.hid (show q ≤ 4000000 ∧ n - r ≤ 4000000 by omega)
  have er : has (keys ps) k = true → IntKind.i64.wrap ((q : Int) + 1) = (r : Int) := fun h => by rw [h] at hr'; simp at hr'; rw [IntKind.wrap_i64]; omega
  have er2 : has (keys ps) k = false → q = r := fun h => by rw [h] at hr'; simpa using hr'
  clear hr hq hr' hrl hl hA' hqr
  cases hb : has (keys ps) k
  · have e2 := er2 hb
    subst e2
    rw [hb] at CH
    clear er er2 hb
    go_enter Try.func26, Try.ntmps26
    go_upto_region 4 with (first
      | (go_at_call 33; refine CR.out.mono ?_; rintro e w1 ⟨rfl, hw⟩; replace hw := hw.symm; subst hw; clear CR)
      | (at_builtin; go_loud (refine po_append (by rfl) (.tmp 12) (.tmp 15) (by rfl) w.heap.size _ [] (by rfl) (PO.nil _ _) A q c (ps.take q) (by rfl) (P1.out w (Gw.refl _)) (by have := L2.out; simp; omega) (Nat.le_refl _) ?_; intro v3 w3 o3 b3; have O3 := Lib.hid o3; have B3 := Lib.hid (show Gw w w3 from b3); clear o3 b3)))
    go_upto_region 7 with (first
      | (go_at_call 18; go_loud (refine (CH.out _ B4.out).mono ?_; rintro e w1 ⟨rfl, hw⟩; replace hw := hw.symm; subst hw))
      | (at_builtin; go_loud (refine po_append (by rfl) (.tmp 17) (.tmp 21) (by rfl) w.heap.size _ ([] ++ ps.take q) (by rfl) (World.ownsRow.alloc O3.out _) (some ⟨w3.heap.size, 0, none⟩) 1 1 [(k, z)] (by rfl) (PB.bl (Bl.here (by decide) rfl)) (by have := L1.out; have := L2.out; simp; omega) ((B3.out.alloc _).size) ?_; intro v4 w4 o4 b4; have O4 := Lib.hid o4; have B4 := Lib.hid (show Gw w w4 from Below.trans (B3.out.alloc _) b4); clear o4 b4)))
    go_wp2_with (at_builtin; go_loud (refine po_append (by rfl) (.tmp 28) (.tmp 31) (by rfl) w.heap.size _ ([] ++ ps.take q ++ [(k, z)]) (by rfl) O4.out A' (n - q) (c - q) (ps.drop q) (by rfl) (P2.out _ B4.out) (by have := L1.out; have := L2.out; simp; omega) (Below.size B4.out) ?_; intro v5 w5 o5 b5; have O5 := Lib.hid o5; have B5 := Lib.hid (show Gw w w5 from Below.trans B4.out b5); clear o5 b5))
    go_ret
    exact ⟨_, rfl, by rw [← HP.out]; exact O5.out, B5.out⟩
  · have e2 := er hb
    rw [hb] at CH
    clear er er2 hb
    go_enter Try.func26, Try.ntmps26
    go_upto_region 4 with (first
      | (go_at_call 33; refine CR.out.mono ?_; rintro e w1 ⟨rfl, hw⟩; replace hw := hw.symm; subst hw; clear CR)
      | (at_builtin; go_loud (refine po_append (by rfl) (.tmp 12) (.tmp 15) (by rfl) w.heap.size _ [] (by rfl) (PO.nil _ _) A q c (ps.take q) (by rfl) (P1.out w (Gw.refl _)) (by have := L2.out; simp; omega) (Nat.le_refl _) ?_; intro v3 w3 o3 b3; have O3 := Lib.hid o3; have B3 := Lib.hid (show Gw w w3 from b3); clear o3 b3)))
    go_upto_region 7 with (first
      | (go_at_call 18; go_loud (refine (CH.out _ B4.out).mono ?_; rintro e w1 ⟨rfl, hw⟩; replace hw := hw.symm; subst hw))
      | (at_builtin; go_loud (refine po_append (by rfl) (.tmp 17) (.tmp 21) (by rfl) w.heap.size _ ([] ++ ps.take q) (by rfl) (World.ownsRow.alloc O3.out _) (some ⟨w3.heap.size, 0, none⟩) 1 1 [(k, z)] (by rfl) (PB.bl (Bl.here (by decide) rfl)) (by have := L1.out; have := L2.out; simp; omega) ((B3.out.alloc _).size) ?_; intro v4 w4 o4 b4; have O4 := Lib.hid o4; have B4 := Lib.hid (show Gw w w4 from Below.trans (B3.out.alloc _) b4); clear o4 b4)))
    go_wp2_with (at_builtin; go_loud (refine po_append (by rfl) (.tmp 28) (.tmp 31) (by rfl) w.heap.size _ ([] ++ ps.take q ++ [(k, z)]) (by rfl) O4.out A' (n - r) (c - r) (ps.drop r) (by rfl) (P2.out _ B4.out) (by have := L1.out; have := L2.out; simp; omega) (Below.size B4.out) ?_; intro v5 w5 o5 b5; have O5 := Lib.hid o5; have B5 := Lib.hid (show Gw w w5 from Below.trans B4.out b5); clear o5 b5))
    go_ret
    exact ⟨_, rfl, by rw [← HP.out]; exact O5.out, B5.out⟩
end Go.Proofs.Ytlhpoliiojekeaa
