/- A leaf without a key. -/
import Derived.Test.YtlhpoliiojekeaaWith
namespace Go.Proofs.Ytlhpoliiojekeaa
set_option maxRecDepth 100000
open Go.RowKit

set_option maxHeartbeats 4000000 in
theorem wwithout {w : World} {g : Nat} {ps : List Pr} (h : LfAt w g ps) (hr : Rises (keys ps)) (hn : ps.length ≤ 990) (k : ByteArray) :
    Calls Try.prog 44 #[.pointer (some ⟨g, 0, none⟩), .string k] w (LeafMade w (delP ps k)) := by
  have hL := Lib.hid h
  obtain ⟨A, c, B, e, h0, h1, h2, h3, h4⟩ := h
  have c0 : w.cell? ⟨g, 0, none⟩ = some (.slice A ps.length c) := by rw [cell_of_row _ _ _ _ _ _ h0]; rfl
  have c1 : w.cell? ⟨g, 1, none⟩ = some (.slice B ps.length e) := by rw [cell_of_row _ _ _ _ _ _ h0]; rfl
  have CE := Lib.hid fun W (hW : Gw w W) => (⟨keep_below c0 hW, keep_below c1 hW⟩ : _ ∧ _)
  have CB := Lib.hid (wbin w A ps.length c (keys ps) k (by rw [← keysV_eq]; exact h1) hr (by omega))
  have hrl := rk_has_le ps k
  have hpl := delP_len ps k
  obtain ⟨Q, hQ⟩ : ∃ Q, delP ps k = Q := ⟨_, rfl⟩
  obtain ⟨q, hq⟩ : ∃ q, rk (keys ps) k = q := ⟨_, rfl⟩
  rw [hq] at CB hrl
  rw [hQ] at hpl ⊢
  cases hb : has (keys ps) k
  · have HQ := Lib.hid (show ps = Q by rw [← hQ]; simp [delP, hb])
    rw [hb] at CB
    clear h0 h1 h2 h3 h4 hb hq hr hQ hpl hrl
    go_enter Try.func44, Try.ntmps44
    go_wp2_with (go_at_call 52; refine CB.out.mono ?_; rintro e w1 ⟨rfl, hw⟩; replace hw := hw.symm; subst hw)
    go_ret
    exact ⟨_, rfl, by rw [← HQ.out]; exact hL.out, Gw.refl _⟩
  · rw [hb] at CB hrl hpl
    simp at hrl hpl
    obtain ⟨r, hr'⟩ : ∃ r, q + 1 = r := ⟨_, rfl⟩
    obtain ⟨n, hn'⟩ : ∃ n, Q.length = n := ⟨_, rfl⟩
    have HPL := Lib.hid hn'
    have hkq : (keysV ps).take q ++ ([] ++ (keysV ps).drop r) = keysV Q := by rw [← hQ, ← hr']; simp [delP, hq, hb, keysV, List.map_take, List.map_drop]
    have hnq : (numsV ps).take q ++ ([] ++ (numsV ps).drop r) = numsV Q := by rw [← hQ, ← hr']; simp [delP, hq, hb, numsV, List.map_take, List.map_drop]
    have SS := Lib.hid fun (W : World) (hW : Gw w W) => wswappedS W A none ps.length c 0 0 q r (keysV ps) [] (h1.gw hW) h2 (VB.empty _ _) (by omega) (by omega) (by omega) (by decide)
    have SI := Lib.hid fun (W : World) (hW : Gw w W) => wswappedI W B none ps.length e 0 0 q r (numsV ps) [] (h3.gw hW) h4 (VB.empty _ _) (by omega) (by omega) (by omega) (by decide)
    rw [hkq] at SS
    rw [hnq] at SI
    have LK := Lib.hid (show (keysV Q).length = n by rw [keysV_len, hn'])
    have LN := Lib.hid (show (numsV Q).length = n by rw [numsV_len, hn'])
    have er : IntKind.i64.wrap ((q : Int) + 1) = (r : Int) := by rw [IntKind.wrap_i64]; omega
    clear h0 h1 h2 h3 h4 hb hq hr hQ hpl hkq hnq hr' hn'
    go_enter Try.func44, Try.ntmps44
    go_upto_region 4 with (go_at_call 52; refine CB.out.mono ?_; rintro e w1 ⟨rfl, hw⟩; replace hw := hw.symm; subst hw)
    go_region_held3 (fun W => W.cell? ⟨g, 0, none⟩ = some (.slice A ps.length c) ∧ W.cell? ⟨g, 1, none⟩ = some (.slice B ps.length e)) (exact CE.out _ (by (repeat' (first | with_reducible exact Gw.refl _ | with_reducible exact B8.out | with_reducible exact B9.out | with_reducible refine Gw.alloc ?_ _ | with_reducible refine Gw.drew ?_ | with_reducible refine Gw.trans ?_ B8.out | with_reducible refine Gw.trans ?_ B9.out)))) (first
      | (go_at_call 59; go_loud (refine (SS.out _ (by (repeat' (first | with_reducible exact Gw.refl _ | with_reducible exact B8.out | with_reducible exact B9.out | with_reducible refine Gw.alloc ?_ _ | with_reducible refine Gw.drew ?_ | with_reducible refine Gw.trans ?_ B8.out | with_reducible refine Gw.trans ?_ B9.out)))).mono ?_; intro e w8 hm; obtain ⟨A8, c8, rfl, r8, hc8, b8⟩ := hm.got2 LK.out; have R8 := Lib.hid r8; have C8 := Lib.hid hc8; have B8 := Lib.hid b8; clear hm r8 hc8 b8))
      | (go_at_call 58; go_loud (refine (SI.out _ (by (repeat' (first | with_reducible exact Gw.refl _ | with_reducible exact B8.out | with_reducible exact B9.out | with_reducible refine Gw.alloc ?_ _ | with_reducible refine Gw.drew ?_ | with_reducible refine Gw.trans ?_ B8.out | with_reducible refine Gw.trans ?_ B9.out)))).mono ?_; intro e w9 hm; obtain ⟨A9, c9, rfl, r9, hc9, b9⟩ := hm.got2 LN.out; have R9 := Lib.hid r9; have C9 := Lib.hid hc9; have B9 := Lib.hid b9; clear hm r9 hc9 b9)))
    all_goals go_wp2
    all_goals go_ret
    all_goals exact ⟨_, rfl, LfAt.made (R8.out.gw (by (repeat' (first | with_reducible exact Gw.refl _ | with_reducible exact B8.out | with_reducible exact B9.out | with_reducible refine Gw.alloc ?_ _ | with_reducible refine Gw.drew ?_ | with_reducible refine Gw.trans ?_ B8.out | with_reducible refine Gw.trans ?_ B9.out)))) C8.out (R9.out.gw (by (repeat' (first | with_reducible exact Gw.refl _ | with_reducible exact B8.out | with_reducible exact B9.out | with_reducible refine Gw.alloc ?_ _ | with_reducible refine Gw.drew ?_ | with_reducible refine Gw.trans ?_ B8.out | with_reducible refine Gw.trans ?_ B9.out)))) C9.out HPL.out, by (repeat' (first | with_reducible exact Gw.refl _ | with_reducible exact B8.out | with_reducible exact B9.out | with_reducible refine Gw.alloc ?_ _ | with_reducible refine Gw.drew ?_ | with_reducible refine Gw.trans ?_ B8.out | with_reducible refine Gw.trans ?_ B9.out))⟩

/-- What change asks of the function that it is handed: the leaf that takes a leaf's place. -/
def Does (W0 : World) (f : Value) (F : List Pr → List Pr) : Prop :=
  ∃ n cap, f = .func (.func n) #[] cap ∧ ∀ W g ps, Gw W0 W → LfAt W g ps → Rises (keys ps) → ps.length ≤ 990 → Calls Try.prog n (#[.pointer (some ⟨g, 0, none⟩)] ++ cap) W (LeafMade W (F ps))
set_option maxHeartbeats 1000000 in
theorem wput1 {W : World} {g b1 b2 : Nat} {ps : List Pr} {k : ByteArray} {z : Int} (c1 : W.cell? ⟨b1, 0, none⟩ = some (.string k)) (c2 : W.cell? ⟨b2, 0, none⟩ = some (.int .i64 z)) (h : LfAt W g ps) (hr : Rises (keys ps)) (hn : ps.length ≤ 990) :
    Calls Try.prog 41 #[.pointer (some ⟨g, 0, none⟩), .pointer (some ⟨b1, 0, none⟩), .pointer (some ⟨b2, 0, none⟩)] W (LeafMade W (putP ps k z)) := by
  have CW := Lib.hid (wwith h hr hn k z)
  clear h hr
  go_enter Try.func41, Try.ntmps41
  go_wp2_with (go_at_call 42; refine CW.out.mono ?_; rintro e w1 ⟨g1, rfl, h1, b1⟩; have H1 := Lib.hid h1; have B1 := Lib.hid b1; clear h1 b1)
  go_ret
  exact ⟨_, rfl, H1.out, B1.out⟩
set_option maxHeartbeats 1000000 in
theorem wdel1 {W : World} {g b1 : Nat} {ps : List Pr} {k : ByteArray} (c1 : W.cell? ⟨b1, 0, none⟩ = some (.string k)) (h : LfAt W g ps) (hr : Rises (keys ps)) (hn : ps.length ≤ 990) :
    Calls Try.prog 43 #[.pointer (some ⟨g, 0, none⟩), .pointer (some ⟨b1, 0, none⟩)] W (LeafMade W (delP ps k)) := by
  have CW := Lib.hid (wwithout h hr hn k)
  clear h hr
  go_enter Try.func43, Try.ntmps43
  go_wp2_with (go_at_call 44; refine CW.out.mono ?_; rintro e w1 ⟨g1, rfl, h1, b1⟩; have H1 := Lib.hid h1; have B1 := Lib.hid b1; clear h1 b1)
  go_ret
  exact ⟨_, rfl, H1.out, B1.out⟩
end Go.Proofs.Ytlhpoliiojekeaa
