/- changed: a node behind a change of one leaf below it. -/
import Derived.Test.YtlhpoliiojekeaaMend
namespace Go.Proofs.Ytlhpoliiojekeaa
set_option maxRecDepth 100000
open Go.RowKit

def ChangedIs (ord d : Nat) (w : World) (ps : List Pr) (m : Nat) (e : Ending) (w' : World) : Prop := ∃ v' m', e = .returned v' ∧ NodeAt ord w' d v' ps m' ∧ m' ≤ m + 1 ∧ m ≤ m' + 1 ∧ Gw w w'
def ChangedAll (ord T : Nat) (f : Value) (k : ByteArray) (F : List Pr → List Pr) (W0 : World) (d : Nat) : Prop :=
  ∀ (W : World) (v : Value) (ps : List Pr) (m : Nat), Gw W0 W → NodeAt ord W d v ps m → Rises (keys ps) → (1 ≤ d → 2 ≤ m) → m ≤ 110 → ps.length ≤ 1000000000000000000 →
    Calls Try.prog 54 #[.pointer (some ⟨T, 0, none⟩), v, .string k, f] W (ChangedIs ord d W (F ps) m)
/-- What change asks of the function that it is handed. -/
def DoesLeaf (W0 : World) (F : List Pr → List Pr) (call : World → Nat → (Ending → World → Prop) → Prop) : Prop :=
  ∀ W g ps, Gw W0 W → LfAt W g ps → Rises (keys ps) → ps.length ≤ 990 → call W g (LeafMade W (F ps))

set_option maxHeartbeats 2000000 in
theorem wchanged_put {ord T b1 b2 : Nat} {W0 : World} {k : ByteArray} {z : Int} (c1 : W0.cell? ⟨b1, 0, none⟩ = some (.string k)) (c2 : W0.cell? ⟨b2, 0, none⟩ = some (.int .i64 z)) :
    ChangedAll ord T (.func (.func 41) #[] #[.pointer (some ⟨b1, 0, none⟩), .pointer (some ⟨b2, 0, none⟩)]) k (putP · k z) W0 0 := by
  intro W v ps m hW h hr _ hm hp
  obtain ⟨g, rfl, hl, rfl⟩ := h
  have CP := Lib.hid (wput1 (keep_below c1 hW) (keep_below c2 hW) hl hr (by omega))
  have hC := chg_put k z
  have HU := Lib.hid (hC.up ps)
  have HD := Lib.hid (hC.down ps)
  have t1 := ta_ll
  unfold lp
  clear hl hr c1 c2 hC
  go_enter Try.func54, Try.ntmps54
  go_wp2_with (go_at_call 41; refine CP.out.mono ?_; rintro e w1 ⟨g1, rfl, h1, b1⟩; have H1 := Lib.hid h1; have B1 := Lib.hid b1; clear h1 b1)
  go_ret
  exact ⟨_, _, rfl, ⟨g1, rfl, H1.out, rfl⟩, HU.out, HD.out, B1.out⟩
set_option maxHeartbeats 2000000 in
theorem wchanged_del {ord T b1 : Nat} {W0 : World} {k : ByteArray} (c1 : W0.cell? ⟨b1, 0, none⟩ = some (.string k)) :
    ChangedAll ord T (.func (.func 43) #[] #[.pointer (some ⟨b1, 0, none⟩)]) k (delP · k) W0 0 := by
  intro W v ps m hW h hr _ hm hp
  obtain ⟨g, rfl, hl, rfl⟩ := h
  have CP := Lib.hid (wdel1 (keep_below c1 hW) hl hr (by omega))
  have hC := chg_del k
  have HU := Lib.hid (hC.up ps)
  have HD := Lib.hid (hC.down ps)
  have t1 := ta_ll
  unfold lp
  clear hl hr c1 hC
  go_enter Try.func54, Try.ntmps54
  go_wp2_with (go_at_call 43; refine CP.out.mono ?_; rintro e w1 ⟨g1, rfl, h1, b1⟩; have H1 := Lib.hid h1; have B1 := Lib.hid b1; clear h1 b1)
  go_ret
  exact ⟨_, _, rfl, ⟨g1, rfl, H1.out, rfl⟩, HU.out, HD.out, B1.out⟩

set_option maxHeartbeats 16000000 in
theorem wchanged_step {ord T : Nat} {root f : Value} {k : ByteArray} {F : List Pr → List Pr} {W0 : World} (ho : 3 ≤ ord) (ho2 : ord ≤ 100) (hT : TrAt W0 T ord root) (hF : Chg k F) {d : Nat} (ih : ChangedAll ord T f k F W0 d) : ChangedAll ord T f k F W0 (d + 1) := by
  intro W v ps m hW h hr h2m hm hp
  obtain ⟨g, ks, kids, rfl, rfl, hC, hFit⟩ := h
  obtain ⟨x, hx⟩ := hC.kid k
  have hnum := hC.num
  have hps : ps = kidsP (kids.take (pl ks k)) ++ (x.ps ++ kidsP (kids.drop (pl ks k + 1))) := hC.all.trans (kidsP_cut kids _ x hx)
  have hxm := List.mem_of_getElem? hx
  have hxf := hFit x hxm
  have hxr : Rises (keys x.ps) := rises_mid (by rw [← hps]; exact hr)
  have hxl : x.ps.length ≤ ps.length := by rw [hps]; simp; omega
  have hFps : F ps = kidsP (kids.take (pl ks k)) ++ (F x.ps ++ kidsP (kids.drop (pl ks k + 1))) := by
    conv => lhs; rw [hps]
    exact hF.mid _ _ _ (hC.front k) (hC.back k)
  have hil : pl ks k < kids.length := (List.getElem?_eq_some_iff.1 hx).1
  have CP := Lib.hid (wplace hC (by omega) k)
  have CR := Lib.hid (ih W x.v x.ps x.m hW (hC.is x hxm) hxr (fun hd => by have := hxf.1; unfold most at this; rw [if_neg (by omega)] at this; omega) (by have := hxf.2; unfold most at this; split at this <;> omega) (by omega))
  have htok := fun (y' : Kid) (hy : y'.ps = F x.ps) => show (toks ks (kids.take (pl ks k) ++ y' :: kids.drop (pl ks k + 1))).Pairwise tr by
    rw [hC.tok_swap hx y' ks rfl]
    have h1 := hC.tok
    rw [hC.mid hx] at h1
    refine tok_change (k := k) (P := []) h1 (by rw [hy]; exact hF.rises _ hxr) (fun p hp => by rw [hy] at hp; exact hF.mem _ _ hp) (fun u hu => ?_) (fun u hu => ?_)
    · rcases front_mem _ _ u hu with ⟨s, hs, rfl⟩ | ⟨p, hp, rfl⟩
      · obtain ⟨j, hj, rfl⟩ := List.mem_iff_getElem.1 hs
        rw [List.length_take] at hj
        rw [List.getElem_take]
        exact pl_low (by omega) (List.getElem?_eq_getElem (by omega))
      · exact hC.front k p hp
    · rcases back_mem _ _ u hu with ⟨s, hs, rfl⟩ | ⟨p, hp, rfl⟩
      · obtain ⟨j, hj, rfl⟩ := List.mem_iff_getElem.1 hs
        rw [List.length_drop] at hj
        rw [List.getElem_drop]
        have h0 := List.getElem?_eq_getElem (l := ks) (i := pl ks k) (by omega)
        rcases j with _ | j
        · exact pl_high hC.rise h0
        · exact kl_trans (pl_high hC.rise h0) (hC.rise.at_ (by omega) h0 (List.getElem?_eq_getElem (by omega)))
      · exact hC.back k p hp
  have hkp := fun (y' : Kid) (hy : y'.ps = F x.ps) => show kidsP (kids.take (pl ks k) ++ y' :: kids.drop (pl ks k + 1)) = F ps by
    rw [hFps, kidsP_app, kidsP_cons, hy]
  have hFr := hF.rises ps hr
  have hup := hF.up ps
  obtain ⟨i, hi⟩ : ∃ i, pl ks k = i := ⟨_, rfl⟩
  rw [hi] at htok hkp CP hil hx
  obtain ⟨p1, hp1⟩ : ∃ p1, i + 1 = p1 := ⟨_, rfl⟩
  rw [hp1] at htok hkp
  obtain ⟨A, c, B, e, c0, c1, h1, h2, h3, h4⟩ := hC.cells
  obtain ⟨adB, hadB, ci⟩ := h3.at_ (k := i) (u := x.v) (by simp [hx])
  subst hadB
  have CE := Lib.hid fun W' (hW' : Gw W W') => (⟨keep_below c0 hW', keep_below c1 hW'⟩ : _ ∧ _)
  have SN := Lib.hid fun (W' : World) (hW' : Gw W W') (b' : Nat) (v : Value) (hv : v.oneCell' = true) (hbb : Bl W' b' [v]) => wswappedN W' (some adB) (some ⟨b', 0, none⟩) kids.length e 1 1 i p1 (kids.map Kid.v) [v] (h3.gw hW') h4 (hbb.vb (by simpa using hv) rfl) (by omega) (by omega) (by omega) (by decide)
  have SNE := Lib.hid fun (v : Value) (m' : Nat) => (show (kids.map Kid.v).take i ++ ([v] ++ (kids.map Kid.v).drop p1) = (kids.take i ++ (⟨v, F x.ps, m'⟩ : Kid) :: kids.drop p1).map Kid.v by simp [List.map_take, List.map_drop])
  have hlen : ∀ (v : Value) (m' : Nat), (kids.take i ++ (⟨v, F x.ps, m'⟩ : Kid) :: kids.drop p1).length = kids.length := fun v m' => by simp; omega
  have LN := Lib.hid fun (v : Value) (m' : Nat) => (show ((kids.take i ++ (⟨v, F x.ps, m'⟩ : Kid) :: kids.drop p1).map Kid.v).length = kids.length by rw [List.length_map]; exact hlen v m')
  have hpl : (F ps).length ≤ 1152921504606846976 := by omega
  have NI := Lib.hid fun (W' : World) (hW' : Gw W W') (v : Value) (m' : Nat) (hv : NodeAt ord W' d v (F x.ps) m') => newInnerC (ord := ord) (d := d) (W := W') (ks := ks) (kids := kids.take i ++ ⟨v, F x.ps, m'⟩ :: kids.drop p1) (n := ks.length) (m := kids.length) rfl (hlen v m') (fun y hy => by
    rcases List.mem_append.1 hy with hy | hy
    · exact (hC.is y (List.mem_of_mem_take hy)).gw hW'
    · rcases List.mem_cons.1 hy with rfl | hy
      · exact hv
      · exact (hC.is y (List.mem_of_mem_drop hy)).gw hW') hnum (htok _ rfl) (by rw [hkp _ rfl]; exact hpl) (by omega)
  have MD := Lib.hid fun (W' : World) (hW' : Gw W W') (g' : Nat) (v : Value) (m' : Nat) (hm1 : m' ≤ x.m + 1) (hm2 : x.m ≤ m' + 1) (hI : InC (NodeAt ord W' d) W' g' (kidsP (kids.take i ++ ⟨v, F x.ps, m'⟩ :: kids.drop p1)) ks (kids.take i ++ ⟨v, F x.ps, m'⟩ :: kids.drop p1)) => by
    rw [hkp _ rfl] at hI
    have hli : (kids.take i).length = i := by rw [List.length_take]; omega
    have := wmend (hT.gw (hW.trans hW')) ho ho2 hI hFr (i := i) (y := ⟨v, F x.ps, m'⟩) (by rw [List.getElem?_append_right (by omega), hli]; simp) (fun y hy => by
      rw [List.take_append_of_le_length (by omega), List.take_of_length_le (by omega)] at hy
      exact hFit y (List.mem_of_mem_take hy)) (fun y hy => by
      rw [List.drop_append, hli, List.drop_eq_nil_of_le (by omega), List.nil_append, show i + 1 - i = 1 by omega, List.drop_succ_cons, List.drop_zero] at hy
      exact hFit y (List.mem_of_mem_drop hy)) (by have := hxf.1; show _ ≤ m' + 1; omega) (by have := hxf.2; show m' ≤ _; omega) (by rw [hlen]; exact h2m (by omega)) (by rw [hlen]; omega) hpl
    rw [hlen] at this
    exact this
  have hib : (i : Int) < (kids.length : Int) := by omega
  have ep1 : IntKind.i64.wrap ((i : Int) + 1) = (p1 : Int) := by rw [IntKind.wrap_i64]; omega
  have R8 := Lib.hid h1
  have C8 := Lib.hid h2
  have t1 := ta_il
  have t2 := ta_ii
  unfold ip
  clear hC hT hW hr hx hps hxm hxf hxr hxl hFps hil htok hkp hFr hup hi hp1 h1 h2 h3 h4 hnum hpl hlen ih hFit hF hp
  go_enter Try.func54, Try.ntmps54
  go_upto_region 9 with (first
    | (go_at_call 53; refine CP.out.mono ?_; rintro e w1 ⟨rfl, hw⟩; replace hw := hw.symm; subst hw; clear CP)
    | (go_at_call 54; go_loud (refine CR.out.mono ?_; rintro e w5 ⟨v5, m5, rfl, n5, hm5, hm6, b5⟩; obtain ⟨tt, g5, hv5⟩ := n5.form; subst hv5; have N5 := Lib.hid n5; have M5 := Lib.hid hm5; have M6 := Lib.hid hm6; have B5 := Lib.hid b5; obtain ⟨k0, k1⟩ := CE.out w5 b5; clear n5 b5 hm5 hm6 CR)))
  go_region_held3 (fun W' => W'.cell? ⟨g, 0, none⟩ = some (.slice A ks.length c) ∧ W'.cell? ⟨g, 1, none⟩ = some (.slice (some adB) kids.length e)) (exact CE.out _ (by (repeat' (first | with_reducible exact Gw.refl _ | with_reducible exact B5.out | with_reducible exact B6.out | with_reducible exact B7.out | with_reducible exact B8.out | with_reducible exact B9.out | with_reducible refine Gw.alloc ?_ _ | with_reducible refine Gw.drew ?_ | with_reducible refine Gw.drewN ?_ _ | with_reducible refine Gw.trans ?_ B5.out | with_reducible refine Gw.trans ?_ B6.out | with_reducible refine Gw.trans ?_ B7.out | with_reducible refine Gw.trans ?_ B8.out | with_reducible refine Gw.trans ?_ B9.out)))) (first
    | (go_at_call 66; go_loud (refine (SN.out _ (by (repeat' (first | with_reducible exact Gw.refl _ | with_reducible exact B5.out | with_reducible exact B6.out | with_reducible exact B7.out | with_reducible exact B8.out | with_reducible exact B9.out | with_reducible refine Gw.alloc ?_ _ | with_reducible refine Gw.drew ?_ | with_reducible refine Gw.drewN ?_ _ | with_reducible refine Gw.trans ?_ B5.out | with_reducible refine Gw.trans ?_ B6.out | with_reducible refine Gw.trans ?_ B7.out | with_reducible refine Gw.trans ?_ B8.out | with_reducible refine Gw.trans ?_ B9.out))) _ _ N5.out.one (by (repeat' (first | exact Bl.here (by decide) (by first | rfl | simp) | with_reducible refine Bl.alloc ?_ _ | with_reducible refine Bl.drew ?_ | with_reducible refine Bl.drewN ?_ _ | with_reducible refine Bl.gw ?_ B5.out | with_reducible refine Bl.gw ?_ B6.out | with_reducible refine Bl.gw ?_ B7.out | with_reducible refine Bl.gw ?_ B8.out | with_reducible refine Bl.gw ?_ B9.out)))).mono ?_; intro e w9 hm; rw [SNE.out _ m5] at hm; obtain ⟨A9, c9, rfl, r9, hc9, b9⟩ := hm.got2 (LN.out _ m5); have R9 := Lib.hid r9; have C9 := Lib.hid hc9; have B9 := Lib.hid b9; clear hm r9 hc9 b9))
    | (go_at_call 57; go_loud (refine (NI.out _ (by (repeat' (first | with_reducible exact Gw.refl _ | with_reducible exact B5.out | with_reducible exact B6.out | with_reducible exact B7.out | with_reducible exact B8.out | with_reducible exact B9.out | with_reducible refine Gw.alloc ?_ _ | with_reducible refine Gw.drew ?_ | with_reducible refine Gw.drewN ?_ _ | with_reducible refine Gw.trans ?_ B5.out | with_reducible refine Gw.trans ?_ B6.out | with_reducible refine Gw.trans ?_ B7.out | with_reducible refine Gw.trans ?_ B8.out | with_reducible refine Gw.trans ?_ B9.out))) _ m5 (N5.out.gw (by (repeat' (first | with_reducible exact Gw.refl _ | with_reducible exact B5.out | with_reducible exact B6.out | with_reducible exact B7.out | with_reducible exact B8.out | with_reducible exact B9.out | with_reducible refine Gw.alloc ?_ _ | with_reducible refine Gw.drew ?_ | with_reducible refine Gw.drewN ?_ _ | with_reducible refine Gw.trans ?_ B5.out | with_reducible refine Gw.trans ?_ B6.out | with_reducible refine Gw.trans ?_ B7.out | with_reducible refine Gw.trans ?_ B8.out | with_reducible refine Gw.trans ?_ B9.out)))) _ _ (R8.out.gw (by (repeat' (first | with_reducible exact Gw.refl _ | with_reducible exact B5.out | with_reducible exact B6.out | with_reducible exact B7.out | with_reducible exact B8.out | with_reducible exact B9.out | with_reducible refine Gw.alloc ?_ _ | with_reducible refine Gw.drew ?_ | with_reducible refine Gw.drewN ?_ _ | with_reducible refine Gw.trans ?_ B5.out | with_reducible refine Gw.trans ?_ B6.out | with_reducible refine Gw.trans ?_ B7.out | with_reducible refine Gw.trans ?_ B8.out | with_reducible refine Gw.trans ?_ B9.out)))) C8.out _ _ (R9.out.gw (by (repeat' (first | with_reducible exact Gw.refl _ | with_reducible exact B5.out | with_reducible exact B6.out | with_reducible exact B7.out | with_reducible exact B8.out | with_reducible exact B9.out | with_reducible refine Gw.alloc ?_ _ | with_reducible refine Gw.drew ?_ | with_reducible refine Gw.drewN ?_ _ | with_reducible refine Gw.trans ?_ B5.out | with_reducible refine Gw.trans ?_ B6.out | with_reducible refine Gw.trans ?_ B7.out | with_reducible refine Gw.trans ?_ B8.out | with_reducible refine Gw.trans ?_ B9.out)))) C9.out).mono ?_; rintro e w6 ⟨g6, rfl, i6, b6⟩; have I6 := Lib.hid i6; have B6 := Lib.hid b6; clear i6 b6))
    | (go_at_call 65; go_loud (refine (MD.out _ (by (repeat' (first | with_reducible exact Gw.refl _ | with_reducible exact B5.out | with_reducible exact B6.out | with_reducible exact B7.out | with_reducible exact B8.out | with_reducible exact B9.out | with_reducible refine Gw.alloc ?_ _ | with_reducible refine Gw.drew ?_ | with_reducible refine Gw.drewN ?_ _ | with_reducible refine Gw.trans ?_ B5.out | with_reducible refine Gw.trans ?_ B6.out | with_reducible refine Gw.trans ?_ B7.out | with_reducible refine Gw.trans ?_ B8.out | with_reducible refine Gw.trans ?_ B9.out))) _ _ m5 M5.out M6.out (I6.out.gw (by (repeat' (first | with_reducible exact Gw.refl _ | with_reducible exact B5.out | with_reducible exact B6.out | with_reducible exact B7.out | with_reducible exact B8.out | with_reducible exact B9.out | with_reducible refine Gw.alloc ?_ _ | with_reducible refine Gw.drew ?_ | with_reducible refine Gw.drewN ?_ _ | with_reducible refine Gw.trans ?_ B5.out | with_reducible refine Gw.trans ?_ B6.out | with_reducible refine Gw.trans ?_ B7.out | with_reducible refine Gw.trans ?_ B8.out | with_reducible refine Gw.trans ?_ B9.out))))).mono ?_; rintro e w7 ⟨g7, ks7, kids7, rfl, i7, f7, u7, l7, b7⟩; have I7 := Lib.hid i7; have F7 := Lib.hid f7; have U7 := Lib.hid u7; have L7 := Lib.hid l7; have B7 := Lib.hid b7; clear i7 f7 u7 l7 b7)))
  all_goals go_wp2
  all_goals go_ret
  all_goals exact ⟨_, _, rfl, ⟨g7, ks7, kids7, rfl, rfl, I7.out.gw (by (repeat' (first | with_reducible exact Gw.refl _ | with_reducible exact B5.out | with_reducible exact B6.out | with_reducible exact B7.out | with_reducible exact B8.out | with_reducible exact B9.out | with_reducible refine Gw.alloc ?_ _ | with_reducible refine Gw.drew ?_ | with_reducible refine Gw.drewN ?_ _ | with_reducible refine Gw.trans ?_ B5.out | with_reducible refine Gw.trans ?_ B6.out | with_reducible refine Gw.trans ?_ B7.out | with_reducible refine Gw.trans ?_ B8.out | with_reducible refine Gw.trans ?_ B9.out))), F7.out⟩, U7.out, L7.out, by (repeat' (first | with_reducible exact Gw.refl _ | with_reducible exact B5.out | with_reducible exact B6.out | with_reducible exact B7.out | with_reducible exact B8.out | with_reducible exact B9.out | with_reducible refine Gw.alloc ?_ _ | with_reducible refine Gw.drew ?_ | with_reducible refine Gw.drewN ?_ _ | with_reducible refine Gw.trans ?_ B5.out | with_reducible refine Gw.trans ?_ B6.out | with_reducible refine Gw.trans ?_ B7.out | with_reducible refine Gw.trans ?_ B8.out | with_reducible refine Gw.trans ?_ B9.out))⟩
end Go.Proofs.Ytlhpoliiojekeaa
