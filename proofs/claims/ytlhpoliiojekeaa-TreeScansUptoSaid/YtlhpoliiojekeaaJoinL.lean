/- join of two leaves. -/
import Derived.Test.YtlhpoliiojekeaaWithout
namespace Go.Proofs.Ytlhpoliiojekeaa
set_option maxRecDepth 100000
open Go.RowKit

set_option maxHeartbeats 8000000 in
theorem wjoinL {w : World} {g g2 : Nat} {X Y : List Pr} (h : LfAt w g X) (h' : LfAt w g2 Y) (hn : X.length + Y.length ≤ 990) (k : ByteArray) :
    Calls Try.prog 74 #[lp g, .string k, lp g2] w fun e w' => ∃ g3, e = .returned (lp g3) ∧ LfAt w' g3 (X ++ Y) ∧ Gw w w' := by
  obtain ⟨A, c, B, e, h0, h1, h2, h3, h4⟩ := h
  obtain ⟨A', c', B', e', h0', h1', h2', h3', h4'⟩ := h'
  have c0 : w.cell? ⟨g, 0, none⟩ = some (.slice A X.length c) := by rw [cell_of_row _ _ _ _ _ _ h0]; rfl
  have c1 : w.cell? ⟨g, 1, none⟩ = some (.slice B X.length e) := by rw [cell_of_row _ _ _ _ _ _ h0]; rfl
  have c2 : w.cell? ⟨g2, 0, none⟩ = some (.slice A' Y.length c') := by rw [cell_of_row _ _ _ _ _ _ h0']; rfl
  have c3 : w.cell? ⟨g2, 1, none⟩ = some (.slice B' Y.length e') := by rw [cell_of_row _ _ _ _ _ _ h0']; rfl
  have CE := Lib.hid fun W (hW : Gw w W) => (⟨keep_below c0 hW, keep_below c1 hW, keep_below c2 hW, keep_below c3 hW⟩ : _ ∧ _ ∧ _ ∧ _)
  have S1 := Lib.hid fun (W : World) (hW : Gw w W) (b : Nat) (hb : Bl W b [.slice A X.length c, .slice A' Y.length c']) => concat2S hb (h1.gw hW) (h1'.gw hW) (by omega)
  have S2 := Lib.hid fun (W : World) (hW : Gw w W) (b : Nat) (hb : Bl W b [.slice B X.length e, .slice B' Y.length e']) => concat2I hb (h3.gw hW) (h3'.gw hW) (by omega)
  rw [show keysV X ++ keysV Y = keysV (X ++ Y) by simp [keysV]] at S1
  rw [show numsV X ++ numsV Y = numsV (X ++ Y) by simp [numsV]] at S2
  obtain ⟨n, hn'⟩ : ∃ n, (X ++ Y).length = n := ⟨_, rfl⟩
  have L1 := Lib.hid (show (keysV (X ++ Y)).length = n by rw [keysV_len, hn'])
  have L2 := Lib.hid (show (numsV (X ++ Y)).length = n by rw [numsV_len, hn'])
  have HN := Lib.hid hn'
  have t1 := ta_ll
  have t2 := ta_llF
  unfold lp
  clear h0 h1 h2 h3 h4 h0' h1' h2' h3' h4' hn'
  go_enter Try.func74, Try.ntmps74
  go_upto_region 5 with fail
  go_region_held3 (fun W => W.cell? ⟨g, 0, none⟩ = some (.slice A X.length c) ∧ W.cell? ⟨g, 1, none⟩ = some (.slice B X.length e) ∧ W.cell? ⟨g2, 0, none⟩ = some (.slice A' Y.length c') ∧ W.cell? ⟨g2, 1, none⟩ = some (.slice B' Y.length e')) (exact CE.out _ (by (repeat' (first | with_reducible exact Gw.refl _ | with_reducible exact B8.out | with_reducible exact B9.out | with_reducible refine Gw.alloc ?_ _ | with_reducible refine Gw.drew ?_ | with_reducible refine Gw.trans ?_ B8.out | with_reducible refine Gw.trans ?_ B9.out | with_reducible refine Gw.trans ?_ B7.out)))) (first
      | (go_at_call 71; go_loud (refine (S1.out _ (by (repeat' (first | with_reducible exact Gw.refl _ | with_reducible exact B8.out | with_reducible exact B9.out | with_reducible refine Gw.alloc ?_ _ | with_reducible refine Gw.drew ?_ | with_reducible refine Gw.trans ?_ B8.out | with_reducible refine Gw.trans ?_ B9.out | with_reducible refine Gw.trans ?_ B7.out))) _ (by (repeat' (first | exact Bl.here (by decide) (by first | rfl | simp) | with_reducible refine Bl.alloc ?_ _ | with_reducible refine Bl.drew ?_ | with_reducible refine Bl.gw ?_ B8.out | with_reducible refine Bl.gw ?_ B9.out | with_reducible refine Bl.gw ?_ B7.out)))).mono ?_; intro e w8 hm; obtain ⟨A8, c8, rfl, r8, hc8, b8⟩ := hm.got2 L1.out; have R8 := Lib.hid r8; have C8 := Lib.hid hc8; have B8 := Lib.hid b8; clear hm r8 hc8 b8))
      | (go_at_call 70; go_loud (refine (S2.out _ (by (repeat' (first | with_reducible exact Gw.refl _ | with_reducible exact B8.out | with_reducible exact B9.out | with_reducible refine Gw.alloc ?_ _ | with_reducible refine Gw.drew ?_ | with_reducible refine Gw.trans ?_ B8.out | with_reducible refine Gw.trans ?_ B9.out | with_reducible refine Gw.trans ?_ B7.out))) _ (by (repeat' (first | exact Bl.here (by decide) (by first | rfl | simp) | with_reducible refine Bl.alloc ?_ _ | with_reducible refine Bl.drew ?_ | with_reducible refine Bl.gw ?_ B8.out | with_reducible refine Bl.gw ?_ B9.out | with_reducible refine Bl.gw ?_ B7.out)))).mono ?_; intro e w9 hm; obtain ⟨A9, c9, rfl, r9, hc9, b9⟩ := hm.got2 L2.out; have R9 := Lib.hid r9; have C9 := Lib.hid hc9; have B9 := Lib.hid b9; clear hm r9 hc9 b9)))
  all_goals go_wp2
  all_goals go_ret
  all_goals exact ⟨_, rfl, LfAt.made (R8.out.gw (by (repeat' (first | with_reducible exact Gw.refl _ | with_reducible exact B8.out | with_reducible exact B9.out | with_reducible refine Gw.alloc ?_ _ | with_reducible refine Gw.drew ?_ | with_reducible refine Gw.trans ?_ B8.out | with_reducible refine Gw.trans ?_ B9.out | with_reducible refine Gw.trans ?_ B7.out)))) C8.out (R9.out.gw (by (repeat' (first | with_reducible exact Gw.refl _ | with_reducible exact B8.out | with_reducible exact B9.out | with_reducible refine Gw.alloc ?_ _ | with_reducible refine Gw.drew ?_ | with_reducible refine Gw.trans ?_ B8.out | with_reducible refine Gw.trans ?_ B9.out | with_reducible refine Gw.trans ?_ B7.out)))) C9.out HN.out, by (repeat' (first | with_reducible exact Gw.refl _ | with_reducible exact B8.out | with_reducible exact B9.out | with_reducible refine Gw.alloc ?_ _ | with_reducible refine Gw.drew ?_ | with_reducible refine Gw.trans ?_ B8.out | with_reducible refine Gw.trans ?_ B9.out | with_reducible refine Gw.trans ?_ B7.out))⟩
end Go.Proofs.Ytlhpoliiojekeaa
