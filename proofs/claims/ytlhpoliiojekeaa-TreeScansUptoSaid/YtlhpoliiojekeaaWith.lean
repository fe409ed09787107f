/- A leaf with a key, and without one. -/
import Derived.Test.YtlhpoliiojekeaaGrow
namespace Go.Proofs.Ytlhpoliiojekeaa
set_option maxRecDepth 100000
open Go.RowKit

def LeafMade (w : World) (ps : List Pr) (e : Ending) (w' : World) : Prop := ∃ g, e = .returned (.pointer (some ⟨g, 0, none⟩)) ∧ LfAt w' g ps ∧ Gw w w'
theorem LfAt.made {W : World} {A B : Option Addr} {c e n : Nat} {ps : List Pr} (hA : VB W A n (keysV ps)) (hc : n ≤ c) (hB : VB W B n (numsV ps)) (he : n ≤ e) (hn : ps.length = n) :
    LfAt (W.alloc (.cells #[.slice A n c, .slice B n e] 101)) W.heap.size ps := by
  subst hn
  exact ⟨A, c, B, e, heap_alloc_new W _, hA.gw ((Gw.refl _).alloc _), hc, hB.gw ((Gw.refl _).alloc _), he⟩

set_option maxHeartbeats 4000000 in
theorem wwith0 {w : World} {g : Nat} {ps : List Pr} (h : LfAt w g ps) (hr : Rises (keys ps)) (hn : ps.length ≤ 990) (k : ByteArray) (z : Int) (hb : has (keys ps) k = false) :
    Calls Try.prog 42 #[.pointer (some ⟨g, 0, none⟩), .string k, .int .i64 z] w (LeafMade w (putP ps k z)) := by
  obtain ⟨A, c, B, e, h0, h1, h2, h3, h4⟩ := h
  have c0 : w.cell? ⟨g, 0, none⟩ = some (.slice A ps.length c) := by rw [cell_of_row _ _ _ _ _ _ h0]; rfl
  have c1 : w.cell? ⟨g, 1, none⟩ = some (.slice B ps.length e) := by rw [cell_of_row _ _ _ _ _ _ h0]; rfl
  have CE := Lib.hid fun W (hW : Gw w W) => (⟨keep_below c0 hW, keep_below c1 hW⟩ : _ ∧ _)
  have CB := Lib.hid (wbin w A ps.length c (keys ps) k (by rw [← keysV_eq]; exact h1) hr (by omega))
  have hrl := rk_has_le ps k
  have hpl := putP_len ps k z
  obtain ⟨Q, hQ⟩ : ∃ Q, putP ps k z = Q := ⟨_, rfl⟩
  obtain ⟨q, hq⟩ : ∃ q, rk (keys ps) k = q := ⟨_, rfl⟩
  rw [hq] at CB hrl
  rw [hQ] at hpl ⊢
  rw [hb] at CB hrl hpl
  simp at hrl hpl
  have HPL := Lib.hid hpl
  have hkq : (keysV ps).take q ++ ([.string k] ++ (keysV ps).drop q) = keysV Q := by rw [← hQ]; simp [putP, hq, hb, keysV, List.map_take, List.map_drop]
  have hnq : (numsV ps).take q ++ ([.int .i64 z] ++ (numsV ps).drop q) = numsV Q := by rw [← hQ]; simp [putP, hq, hb, numsV, List.map_take, List.map_drop]
  have SS := Lib.hid fun (W : World) (hW : Gw w W) (b : Nat) (hbb : Bl W b [.string k]) => wswappedS W A (some ⟨b, 0, none⟩) ps.length c 1 1 q q (keysV ps) [.string k] (h1.gw hW) h2 (hbb.vb (by simp; rfl) rfl) (Nat.le_refl _) hrl (by omega) (by decide)
  have SI := Lib.hid fun (W : World) (hW : Gw w W) (b : Nat) (hbb : Bl W b [.int .i64 z]) => wswappedI W B (some ⟨b, 0, none⟩) ps.length e 1 1 q q (numsV ps) [.int .i64 z] (h3.gw hW) h4 (hbb.vb (by simp; rfl) rfl) (Nat.le_refl _) hrl (by omega) (by decide)
  rw [hkq] at SS
  rw [hnq] at SI
  have LK := Lib.hid (show (keysV Q).length = ps.length + 1 by rw [keysV_len, hpl])
  have LN := Lib.hid (show (numsV Q).length = ps.length + 1 by rw [numsV_len, hpl])
  clear h0 h1 h2 h3 h4 hb hq hr hQ hpl hkq hnq
  go_enter Try.func42, Try.ntmps42
  go_upto_region 4 with (go_at_call 52; refine CB.out.mono ?_; rintro e w1 ⟨rfl, hw⟩; replace hw := hw.symm; subst hw)
  go_region_held3 (fun W => W.cell? ⟨g, 0, none⟩ = some (.slice A ps.length c) ∧ W.cell? ⟨g, 1, none⟩ = some (.slice B ps.length e)) (exact CE.out _ (by (repeat' (first | with_reducible exact Gw.refl _ | with_reducible exact B8.out | with_reducible exact B9.out | with_reducible refine Gw.alloc ?_ _ | with_reducible refine Gw.drew ?_ | with_reducible refine Gw.trans ?_ B8.out | with_reducible refine Gw.trans ?_ B9.out)))) (first
    | (go_at_call 59; go_loud (refine (SS.out _ (by (repeat' (first | with_reducible exact Gw.refl _ | with_reducible exact B8.out | with_reducible exact B9.out | with_reducible refine Gw.alloc ?_ _ | with_reducible refine Gw.drew ?_ | with_reducible refine Gw.trans ?_ B8.out | with_reducible refine Gw.trans ?_ B9.out))) _ (by (repeat' (first | exact Bl.here (by decide) (by first | rfl | simp) | with_reducible refine Bl.alloc ?_ _ | with_reducible refine Bl.drew ?_ | with_reducible refine Bl.gw ?_ B8.out | with_reducible refine Bl.gw ?_ B9.out)))).mono ?_; intro e w8 hm; obtain ⟨A8, c8, rfl, r8, hc8, b8⟩ := hm.got2 LK.out; have R8 := Lib.hid r8; have C8 := Lib.hid hc8; have B8 := Lib.hid b8; clear hm r8 hc8 b8))
    | (go_at_call 58; go_loud (refine (SI.out _ (by (repeat' (first | with_reducible exact Gw.refl _ | with_reducible exact B8.out | with_reducible exact B9.out | with_reducible refine Gw.alloc ?_ _ | with_reducible refine Gw.drew ?_ | with_reducible refine Gw.trans ?_ B8.out | with_reducible refine Gw.trans ?_ B9.out))) _ (by (repeat' (first | exact Bl.here (by decide) (by first | rfl | simp) | with_reducible refine Bl.alloc ?_ _ | with_reducible refine Bl.drew ?_ | with_reducible refine Bl.gw ?_ B8.out | with_reducible refine Bl.gw ?_ B9.out)))).mono ?_; intro e w9 hm; obtain ⟨A9, c9, rfl, r9, hc9, b9⟩ := hm.got2 LN.out; have R9 := Lib.hid r9; have C9 := Lib.hid hc9; have B9 := Lib.hid b9; clear hm r9 hc9 b9)))
  all_goals go_wp2
  all_goals go_ret
  all_goals exact ⟨_, rfl, LfAt.made (R8.out.gw (by (repeat' (first | with_reducible exact Gw.refl _ | with_reducible exact B8.out | with_reducible exact B9.out | with_reducible refine Gw.alloc ?_ _ | with_reducible refine Gw.drew ?_ | with_reducible refine Gw.trans ?_ B8.out | with_reducible refine Gw.trans ?_ B9.out)))) C8.out (R9.out.gw (by (repeat' (first | with_reducible exact Gw.refl _ | with_reducible exact B8.out | with_reducible exact B9.out | with_reducible refine Gw.alloc ?_ _ | with_reducible refine Gw.drew ?_ | with_reducible refine Gw.trans ?_ B8.out | with_reducible refine Gw.trans ?_ B9.out)))) C9.out HPL.out, by (repeat' (first | with_reducible exact Gw.refl _ | with_reducible exact B8.out | with_reducible exact B9.out | with_reducible refine Gw.alloc ?_ _ | with_reducible refine Gw.drew ?_ | with_reducible refine Gw.trans ?_ B8.out | with_reducible refine Gw.trans ?_ B9.out))⟩

set_option maxHeartbeats 4000000 in
theorem wwith1 {w : World} {g : Nat} {ps : List Pr} (h : LfAt w g ps) (hr : Rises (keys ps)) (hn : ps.length ≤ 990) (k : ByteArray) (z : Int) (hb : has (keys ps) k = true) :
    Calls Try.prog 42 #[.pointer (some ⟨g, 0, none⟩), .string k, .int .i64 z] w (LeafMade w (putP ps k z)) := by
  obtain ⟨A, c, B, e, h0, h1, h2, h3, h4⟩ := h
  have c0 : w.cell? ⟨g, 0, none⟩ = some (.slice A ps.length c) := by rw [cell_of_row _ _ _ _ _ _ h0]; rfl
  have c1 : w.cell? ⟨g, 1, none⟩ = some (.slice B ps.length e) := by rw [cell_of_row _ _ _ _ _ _ h0]; rfl
  have CE := Lib.hid fun W (hW : Gw w W) => (⟨keep_below c0 hW, keep_below c1 hW⟩ : _ ∧ _)
  have CB := Lib.hid (wbin w A ps.length c (keys ps) k (by rw [← keysV_eq]; exact h1) hr (by omega))
  have hrl := rk_has_le ps k
  have hpl := putP_len ps k z
  obtain ⟨Q, hQ⟩ : ∃ Q, putP ps k z = Q := ⟨_, rfl⟩
  obtain ⟨q, hq⟩ : ∃ q, rk (keys ps) k = q := ⟨_, rfl⟩
  rw [hq] at CB hrl
  rw [hQ] at hpl ⊢
  rw [hb] at CB hrl hpl
  simp at hrl hpl
  have HPL := Lib.hid hpl
  obtain ⟨r, hr'⟩ : ∃ r, q + 1 = r := ⟨_, rfl⟩
  have hkq : keysV ps = keysV Q := by
    have h5 := has_at hb
    rw [hq, keys_get] at h5
    obtain ⟨p, hp, h6⟩ := Option.map_eq_some_iff.1 h5
    have hlt : q < ps.length := (List.getElem?_eq_some_iff.1 hp).1
    rw [← hQ]
    simp only [putP, hq, hb, keysV, List.map_append, List.map_cons, List.map_take, List.map_drop, if_true]
    conv => lhs; rw [← List.take_append_drop q (List.map (fun p : Pr => Value.string p.1) ps)]
    rw [List.drop_eq_getElem_cons (by simpa using hlt)]
    have : (List.map (fun p : Pr => Value.string p.1) ps)[q]'(by simpa using hlt) = Value.string k := by
      rw [List.getElem_map]
      rw [List.getElem?_eq_getElem hlt] at hp
      cases hp
      rw [← h6]
    rw [this]
  have hnq : (numsV ps).take q ++ ([.int .i64 z] ++ (numsV ps).drop r) = numsV Q := by rw [← hQ, ← hr']; simp [putP, hq, hb, numsV, List.map_take, List.map_drop]
  have SI := Lib.hid fun (W : World) (hW : Gw w W) (b : Nat) (hbb : Bl W b [.int .i64 z]) => wswappedI W B (some ⟨b, 0, none⟩) ps.length e 1 1 q r (numsV ps) [.int .i64 z] (h3.gw hW) h4 (hbb.vb (by simp; rfl) rfl) (by omega) (by omega) (by omega) (by decide)
  rw [hnq] at SI
  have LN := Lib.hid (show (numsV Q).length = ps.length by rw [numsV_len, hpl])
  have R8 := Lib.hid (show VB w A ps.length (keysV Q) by rw [← hkq]; exact h1)
  have C8 := Lib.hid h2
  have er : IntKind.i64.wrap ((q : Int) + 1) = (r : Int) := by rw [IntKind.wrap_i64]; omega
  clear h0 h1 h2 h3 h4 hb hq hr hQ hpl hkq hnq hr'
  go_enter Try.func42, Try.ntmps42
  go_upto_region 3 with (go_at_call 52; refine CB.out.mono ?_; rintro e w1 ⟨rfl, hw⟩; replace hw := hw.symm; subst hw)
  go_region_held3 (fun W => W.cell? ⟨g, 0, none⟩ = some (.slice A ps.length c) ∧ W.cell? ⟨g, 1, none⟩ = some (.slice B ps.length e)) (exact CE.out _ (by (repeat' (first | with_reducible exact Gw.refl _ | with_reducible exact B8.out | with_reducible exact B9.out | with_reducible refine Gw.alloc ?_ _ | with_reducible refine Gw.drew ?_ | with_reducible refine Gw.trans ?_ B8.out | with_reducible refine Gw.trans ?_ B9.out)))) (first
    | (go_at_call 58; go_loud (refine (SI.out _ (by (repeat' (first | with_reducible exact Gw.refl _ | with_reducible exact B8.out | with_reducible exact B9.out | with_reducible refine Gw.alloc ?_ _ | with_reducible refine Gw.drew ?_ | with_reducible refine Gw.trans ?_ B8.out | with_reducible refine Gw.trans ?_ B9.out))) _ (by (repeat' (first | exact Bl.here (by decide) (by first | rfl | simp) | with_reducible refine Bl.alloc ?_ _ | with_reducible refine Bl.drew ?_ | with_reducible refine Bl.gw ?_ B8.out | with_reducible refine Bl.gw ?_ B9.out)))).mono ?_; intro e w9 hm; obtain ⟨A9, c9, rfl, r9, hc9, b9⟩ := hm.got2 LN.out; have R9 := Lib.hid r9; have C9 := Lib.hid hc9; have B9 := Lib.hid b9; clear hm r9 hc9 b9)))
  all_goals go_wp2
  all_goals go_ret
  all_goals exact ⟨_, rfl, LfAt.made (R8.out.gw (by (repeat' (first | with_reducible exact Gw.refl _ | with_reducible exact B8.out | with_reducible exact B9.out | with_reducible refine Gw.alloc ?_ _ | with_reducible refine Gw.drew ?_ | with_reducible refine Gw.trans ?_ B8.out | with_reducible refine Gw.trans ?_ B9.out)))) C8.out (R9.out.gw (by (repeat' (first | with_reducible exact Gw.refl _ | with_reducible exact B8.out | with_reducible exact B9.out | with_reducible refine Gw.alloc ?_ _ | with_reducible refine Gw.drew ?_ | with_reducible refine Gw.trans ?_ B8.out | with_reducible refine Gw.trans ?_ B9.out)))) C9.out HPL.out, by (repeat' (first | with_reducible exact Gw.refl _ | with_reducible exact B8.out | with_reducible exact B9.out | with_reducible refine Gw.alloc ?_ _ | with_reducible refine Gw.drew ?_ | with_reducible refine Gw.trans ?_ B8.out | with_reducible refine Gw.trans ?_ B9.out))⟩

theorem wwith {w : World} {g : Nat} {ps : List Pr} (h : LfAt w g ps) (hr : Rises (keys ps)) (hn : ps.length ≤ 990) (k : ByteArray) (z : Int) :
    Calls Try.prog 42 #[.pointer (some ⟨g, 0, none⟩), .string k, .int .i64 z] w (LeafMade w (putP ps k z)) := by
  cases hb : has (keys ps) k
  · exact wwith0 h hr hn k z hb
  · exact wwith1 h hr hn k z hb
end Go.Proofs.Ytlhpoliiojekeaa
