/- join of two inner nodes. -/
import Derived.Test.YtlhpoliiojekeaaKSP
namespace Go.Proofs.Ytlhpoliiojekeaa
set_option maxRecDepth 100000
open Go.RowKit

set_option maxHeartbeats 16000000 in
theorem wjoinI {ord d : Nat} {w : World} {g g2 : Nat} {ps ps2 : List Pr} {ks ks2 : List ByteArray} {kids kids2 : List Kid} {k : ByteArray} (h : InC (NodeAt ord w d) w g ps ks kids) (h' : InC (NodeAt ord w d) w g2 ps2 ks2 kids2) (htok : (toks (ks ++ k :: ks2) (kids ++ kids2)).Pairwise tr)
    (hn : kids.length + kids2.length ≤ 990) (hp : (kidsP (kids ++ kids2)).length ≤ 1152921504606846976) :
    Calls Try.prog 74 #[ip g, .string k, ip g2] w fun e w' => ∃ g3, e = .returned (ip g3) ∧ InC (NodeAt ord w' d) w' g3 (kidsP (kids ++ kids2)) (ks ++ k :: ks2) (kids ++ kids2) ∧ Gw w w' := by
  have hnum := h.num
  have hnum' := h'.num
  obtain ⟨A, c, B, e, c0, c1, h1, h2, h3, h4⟩ := h.cells
  obtain ⟨A', c', B', e', c2, c3, h1', h2', h3', h4'⟩ := h'.cells
  have CE := Lib.hid fun W (hW : Gw w W) => (⟨keep_below c0 hW, keep_below c1 hW, keep_below c2 hW, keep_below c3 hW⟩ : _ ∧ _ ∧ _ ∧ _)
  have S1 := Lib.hid fun (W : World) (hW : Gw w W) (b : Nat) (b2 : Nat) (hb : Bl W b [.slice A ks.length c, .slice (some ⟨b2, 0, none⟩) 1 1, .slice A' ks2.length c']) (hb2 : Bl W b2 [.string k]) => concat3S hb hb2 (h1.gw hW) (h1'.gw hW) (by omega)
  have S2 := Lib.hid fun (W : World) (hW : Gw w W) (b : Nat) (hb : Bl W b [.slice B kids.length e, .slice B' kids2.length e']) => concat2N hb (h3.gw hW) (h3'.gw hW) (by omega)
  rw [show ks.map Value.string ++ Value.string k :: ks2.map Value.string = (ks ++ k :: ks2).map Value.string by simp] at S1
  rw [show kids.map Kid.v ++ kids2.map Kid.v = (kids ++ kids2).map Kid.v by simp] at S2
  obtain ⟨n, hn1⟩ : ∃ n, (ks ++ k :: ks2).length = n := ⟨_, rfl⟩
  obtain ⟨m, hm1⟩ : ∃ m, (kids ++ kids2).length = m := ⟨_, rfl⟩
  have L1 := Lib.hid (show ((ks ++ k :: ks2).map Value.string).length = n by rw [List.length_map, hn1])
  have L2 := Lib.hid (show ((kids ++ kids2).map Kid.v).length = m by rw [List.length_map, hm1])
  have N1 := Lib.hid fun (W : World) (hW : Gw w W) => newInnerC (ord := ord) (d := d) (W := W) hn1 hm1 (fun x hx => by
    rcases List.mem_append.1 hx with hx | hx
    · exact (h.is x hx).gw hW
    · exact (h'.is x hx).gw hW) (by simp at hn1 hm1; omega) htok hp (by simp at hm1; omega)
  have t1 := ta_il
  have t2 := ta_ii
  have t3 := ta_iiF
  unfold ip
  clear h h' h1 h2 h3 h4 h1' h2' h3' h4' hn1 hm1 htok hp hnum hnum'
  go_enter Try.func74, Try.ntmps74
  go_upto_region 9 with fail
  go_region_held3 (fun W => W.cell? ⟨g, 0, none⟩ = some (.slice A ks.length c) ∧ W.cell? ⟨g, 1, none⟩ = some (.slice B kids.length e) ∧ W.cell? ⟨g2, 0, none⟩ = some (.slice A' ks2.length c') ∧ W.cell? ⟨g2, 1, none⟩ = some (.slice B' kids2.length e')) (exact CE.out _ (by (repeat' (first | with_reducible exact Gw.refl _ | with_reducible exact B8.out | with_reducible exact B9.out | with_reducible refine Gw.alloc ?_ _ | with_reducible refine Gw.drew ?_ | with_reducible refine Gw.trans ?_ B8.out | with_reducible refine Gw.trans ?_ B9.out | with_reducible refine Gw.trans ?_ B7.out)))) (first
      | (go_at_call 71; go_loud (refine (S1.out _ (by (repeat' (first | with_reducible exact Gw.refl _ | with_reducible exact B8.out | with_reducible exact B9.out | with_reducible refine Gw.alloc ?_ _ | with_reducible refine Gw.drew ?_ | with_reducible refine Gw.trans ?_ B8.out | with_reducible refine Gw.trans ?_ B9.out | with_reducible refine Gw.trans ?_ B7.out))) _ _ (by (repeat' (first | exact Bl.here (by decide) (by first | rfl | simp) | with_reducible refine Bl.alloc ?_ _ | with_reducible refine Bl.drew ?_ | with_reducible refine Bl.gw ?_ B8.out | with_reducible refine Bl.gw ?_ B9.out | with_reducible refine Bl.gw ?_ B7.out))) (by (repeat' (first | exact Bl.here (by decide) (by first | rfl | simp) | with_reducible refine Bl.alloc ?_ _ | with_reducible refine Bl.drew ?_ | with_reducible refine Bl.gw ?_ B8.out | with_reducible refine Bl.gw ?_ B9.out | with_reducible refine Bl.gw ?_ B7.out)))).mono ?_; intro e w8 hm; obtain ⟨A8, c8, rfl, r8, hc8, b8⟩ := hm.got2 L1.out; have R8 := Lib.hid r8; have C8 := Lib.hid hc8; have B8 := Lib.hid b8; clear hm r8 hc8 b8))
      | (go_at_call 75; go_loud (refine (S2.out _ (by (repeat' (first | with_reducible exact Gw.refl _ | with_reducible exact B8.out | with_reducible exact B9.out | with_reducible refine Gw.alloc ?_ _ | with_reducible refine Gw.drew ?_ | with_reducible refine Gw.trans ?_ B8.out | with_reducible refine Gw.trans ?_ B9.out | with_reducible refine Gw.trans ?_ B7.out))) _ (by (repeat' (first | exact Bl.here (by decide) (by first | rfl | simp) | with_reducible refine Bl.alloc ?_ _ | with_reducible refine Bl.drew ?_ | with_reducible refine Bl.gw ?_ B8.out | with_reducible refine Bl.gw ?_ B9.out | with_reducible refine Bl.gw ?_ B7.out)))).mono ?_; intro e w9 hm; obtain ⟨A9, c9, rfl, r9, hc9, b9⟩ := hm.got2 L2.out; have R9 := Lib.hid r9; have C9 := Lib.hid hc9; have B9 := Lib.hid b9; clear hm r9 hc9 b9))
      | (go_at_call 57; go_loud (refine (N1.out _ (by (repeat' (first | with_reducible exact Gw.refl _ | with_reducible exact B8.out | with_reducible exact B9.out | with_reducible refine Gw.alloc ?_ _ | with_reducible refine Gw.drew ?_ | with_reducible refine Gw.trans ?_ B8.out | with_reducible refine Gw.trans ?_ B9.out | with_reducible refine Gw.trans ?_ B7.out))) _ _ (R8.out.gw (by (repeat' (first | with_reducible exact Gw.refl _ | with_reducible exact B8.out | with_reducible exact B9.out | with_reducible refine Gw.alloc ?_ _ | with_reducible refine Gw.drew ?_ | with_reducible refine Gw.trans ?_ B8.out | with_reducible refine Gw.trans ?_ B9.out | with_reducible refine Gw.trans ?_ B7.out)))) C8.out _ _ (R9.out.gw (by (repeat' (first | with_reducible exact Gw.refl _ | with_reducible exact B8.out | with_reducible exact B9.out | with_reducible refine Gw.alloc ?_ _ | with_reducible refine Gw.drew ?_ | with_reducible refine Gw.trans ?_ B8.out | with_reducible refine Gw.trans ?_ B9.out | with_reducible refine Gw.trans ?_ B7.out)))) C9.out).mono ?_; rintro e w7 ⟨g7, rfl, i7, b7⟩; have I7 := Lib.hid i7; have B7 := Lib.hid b7; clear i7 b7)))
  all_goals go_wp2
  all_goals go_ret
  all_goals exact ⟨_, rfl, I7.out, by (repeat' (first | with_reducible exact Gw.refl _ | with_reducible exact B8.out | with_reducible exact B9.out | with_reducible refine Gw.alloc ?_ _ | with_reducible refine Gw.drew ?_ | with_reducible refine Gw.trans ?_ B8.out | with_reducible refine Gw.trans ?_ B9.out | with_reducible refine Gw.trans ?_ B7.out))⟩
end Go.Proofs.Ytlhpoliiojekeaa
