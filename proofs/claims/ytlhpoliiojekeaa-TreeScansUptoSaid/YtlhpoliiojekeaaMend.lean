/- mend. -/
import Derived.Test.YtlhpoliiojekeaaHalves
import Derived.Test.YtlhpoliiojekeaaFill
namespace Go.Proofs.Ytlhpoliiojekeaa
set_option maxRecDepth 100000
open Go.RowKit

theorem Bl.drewN {X : World} {b : Nat} {vs : List Value} (h : Bl X b vs) (k : Nat) : Bl (X.drewN k) b vs := h.gw ((Gw.refl _).drewN k)
section
variable {N : Value → List Pr → Nat → Prop} {w : World} {g : Nat} {ps : List Pr} {ks : List ByteArray} {kids : List Kid}
theorem InC.mid (h : InC N w g ps ks kids) {i : Nat} {y : Kid} (hy : kids[i]? = some y) : toks ks kids = frontT (ks.take i) (kids.take i) ++ (kt y ++ backT (ks.drop i) (kids.drop (i + 1))) := by
  have hlt := (List.getElem?_eq_some_iff.1 hy).1
  have hn := h.num
  have h1 := toks_mid y (ks.drop i) (kids.drop (i + 1)) (by rw [List.length_drop, List.length_drop]; omega) (ks.take i) (kids.take i) (by rw [List.length_take, List.length_take]; omega)
  rw [← cut_at kids i y hy, List.take_append_drop] at h1
  exact h1
theorem InC.tok_swap (h : InC N w g ps ks kids) {i : Nat} {y : Kid} (hy : kids[i]? = some y) (y' : Kid) (S : List ByteArray) (hS : S = ks) : toks S (kids.take i ++ y' :: kids.drop (i + 1)) = frontT (ks.take i) (kids.take i) ++ (kt y' ++ backT (ks.drop i) (kids.drop (i + 1))) := by
  subst hS
  have hlt := (List.getElem?_eq_some_iff.1 hy).1
  have hn := h.num
  have h1 := toks_mid y' (S.drop i) (kids.drop (i + 1)) (by rw [List.length_drop, List.length_drop]; omega) (S.take i) (kids.take i) (by rw [List.length_take, List.length_take]; omega)
  rw [List.take_append_drop] at h1
  exact h1
theorem InC.joined (h : InC N w g ps ks kids) {j : Nat} {a b one : Kid} (ha : kids[j]? = some a) (hb : kids[j + 1]? = some b) (hone : one.ps = a.ps ++ b.ps) :
    (toks (ks.take j ++ ks.drop (j + 1)) (kids.take j ++ one :: kids.drop (j + 2))).Pairwise tr ∧ kidsP (kids.take j ++ one :: kids.drop (j + 2)) = ps := by
  have hlt := (List.getElem?_eq_some_iff.1 hb).1
  have hn := h.num
  obtain ⟨s, hs⟩ : ∃ s, ks[j]? = some s := ⟨_, List.getElem?_eq_getElem (by omega)⟩
  have h1 := h.tok
  rw [h.mid ha, show ks.drop j = s :: ks.drop (j + 1) by obtain ⟨h3, rfl⟩ := List.getElem?_eq_some_iff.1 hs; exact List.drop_eq_getElem_cons h3, show kids.drop (j + 1) = b :: kids.drop (j + 2) by obtain ⟨h3, rfl⟩ := List.getElem?_eq_some_iff.1 hb; exact List.drop_eq_getElem_cons h3] at h1
  simp only [backT] at h1
  refine ⟨?_, ?_⟩
  · rw [toks_mid one (ks.drop (j + 1)) (kids.drop (j + 2)) (by rw [List.length_drop, List.length_drop]; omega) (ks.take j) (kids.take j) (by rw [List.length_take, List.length_take]; omega)]
    exact tok_join h1 hone
  · rw [h.all]
    conv => rhs; rw [cut_at kids j a ha, show kids.drop (j + 1) = b :: kids.drop (j + 2) by obtain ⟨h3, rfl⟩ := List.getElem?_eq_some_iff.1 hb; exact List.drop_eq_getElem_cons h3]
    simp [kidsP, hone]
theorem InC.splitted (h : InC N w g ps ks kids) {i : Nat} {y l r : Kid} {s : ByteArray} (hy : kids[i]? = some y) (hps : y.ps = l.ps ++ r.ps) (h1 : ∀ p ∈ l.ps, kl p.1 s = true) (h2 : ∀ p ∈ r.ps, kl p.1 s = false) (e1 : l.ps ≠ []) (e2 : r.ps ≠ []) :
    (toks (ks.take i ++ s :: ks.drop i) (kids.take i ++ l :: r :: kids.drop (i + 1))).Pairwise tr ∧ kidsP (kids.take i ++ l :: r :: kids.drop (i + 1)) = ps := by
  have hlt := (List.getElem?_eq_some_iff.1 hy).1
  have hn := h.num
  have h3 := h.tok
  rw [h.mid hy] at h3
  refine ⟨?_, ?_⟩
  · rw [toks_mid l (s :: ks.drop i) (r :: kids.drop (i + 1)) (by rw [List.length_cons, List.length_cons, List.length_drop, List.length_drop]; omega) (ks.take i) (kids.take i) (by rw [List.length_take, List.length_take]; omega)]
    simp only [backT]
    exact tok_split h3 hps e1 e2 h1 h2
  · rw [h.all]
    conv => rhs; rw [cut_at kids i y hy]
    simp [kidsP, hps]
end

/-- What mend hands on to its second half: a node whose kid i1 has enough parts, perhaps too many. -/
def MendAt (ord d : Nat) (w : World) (ps : List Pr) (L : Nat) (t1 t2 : Value) (wr : World) : Prop :=
  ∃ g1 i1 ks1 kids1 y1, t1 = .pointer (some ⟨g1, 0, none⟩) ∧ t2 = .int .i64 (i1 : Nat) ∧ InC (NodeAt ord wr d) wr g1 ps ks1 kids1 ∧ kids1[i1]? = some y1 ∧ (∀ x ∈ kids1.take i1, Fit ord d x.m) ∧ (∀ x ∈ kids1.drop (i1 + 1), Fit ord d x.m) ∧
    (most ord d + 1) / 2 ≤ y1.m ∧ y1.m ≤ 2 * most ord d ∧ kids1.length ≤ L ∧ L ≤ kids1.length + 1 ∧ Gw w wr
def MendIs (ord d : Nat) (w : World) (ps : List Pr) (L : Nat) (e : Ending) (w' : World) : Prop :=
  ∃ g1 ks1 kids1, e = .returned (.pointer (some ⟨g1, 0, none⟩)) ∧ InC (NodeAt ord w' d) w' g1 ps ks1 kids1 ∧ (∀ x ∈ kids1, Fit ord d x.m) ∧ kids1.length ≤ L + 1 ∧ L ≤ kids1.length + 1 ∧ Gw w w'

theorem NodeAt.form {ord : Nat} {w : World} {d : Nat} {v : Value} {ps : List Pr} {m : Nat} (h : NodeAt ord w d v ps m) : ∃ tt g, v = .iface tt (.pointer (some ⟨g, 0, none⟩)) := by
  rcases d with _ | d
  · obtain ⟨g, rfl, -⟩ := h; exact ⟨_, _, rfl⟩
  · obtain ⟨g, ks, kids, rfl, -⟩ := h; exact ⟨_, _, rfl⟩
theorem TrAt.gw {w w' : World} {T ord : Nat} {v : Value} (h : TrAt w T ord v) (hg : Gw w w') : TrAt w' T ord v := h.below hg

set_option maxHeartbeats 16000000 in
theorem wmend {ord d T : Nat} {root : Value} {w : World} {g : Nat} {ps : List Pr} {ks : List ByteArray} {kids : List Kid} {i : Nat} {y : Kid} (hT : TrAt w T ord root) (ho : 3 ≤ ord) (ho2 : ord ≤ 100) (h : InC (NodeAt ord w d) w g ps ks kids) (hr : Rises (keys ps)) (hy : kids[i]? = some y)
    (hf1 : ∀ x ∈ kids.take i, Fit ord d x.m) (hf2 : ∀ x ∈ kids.drop (i + 1), Fit ord d x.m) (hy1 : (most ord d + 1) / 2 ≤ y.m + 1) (hy2 : y.m ≤ most ord d + 1) (hk : 2 ≤ kids.length) (hk2 : kids.length ≤ 200) (hp : ps.length ≤ 1152921504606846976) :
    Calls Try.prog 65 #[.pointer (some ⟨T, 0, none⟩), .pointer (some ⟨g, 0, none⟩), .int .i64 (i : Nat)] w (MendIs ord d w ps kids.length) := by
  have hil := (List.getElem?_eq_some_iff.1 hy).1
  have hnum := h.num
  have hmo : most ord d ≤ 100 := by unfold most; split <;> omega
  have hmo2 : 2 ≤ most ord d := by unfold most; split <;> omega
  have hym := h.is y (List.mem_of_getElem? hy)
  obtain ⟨A, c, B, e, c0, c1, h1, h2, h3, h4⟩ := h.cells
  obtain ⟨adB, hadB, ci⟩ := h3.at_ (k := i) (u := y.v) (by simp [hy])
  have CSm := Lib.hid (wsmall hT hym (by omega) (by omega))
  have HT := Lib.hid hT
  have HR := Lib.hid hr
  have HP := Lib.hid hp
  have i1 : (i : Int) < (kids.length : Int) := by omega
  subst hadB
  go_enter Try.func65, Try.ntmps65
  go_upto_region 1 with fail
  go_cut [19] (fun t wr => t = .bool (decide (y.m < (most ord d + 1) / 2)) ∧ ∃ n, wr = w.drewN n)
  case first =>
    go_wp2_with (go_at_call 73; refine CSm.out.mono ?_; rintro e w1 ⟨rfl, n, rfl⟩)
    go_meet
    exact ⟨rfl, _, rfl⟩
  rename_i K1 hK1 K0 hK0
  obtain ⟨ht19, n, rfl⟩ := hcut
  obtain ⟨bb, hbb⟩ : ∃ bb, decide (y.m < (most ord d + 1) / 2) = bb := ⟨_, rfl⟩
  rw [hbb] at ht19
  subst ht19
  refine hK0 _ _ ?_
  go_cut [1, 2] (MendAt ord d w ps kids.length)
  case first =>
    cases bb
    · have hs : ¬ y.m < (most ord d + 1) / 2 := of_decide_eq_false hbb
      have FIN := Lib.hid (show ∀ n, MendAt ord d w ps kids.length (.pointer (some ⟨g, 0, none⟩)) (.int .i64 (i : Nat)) (w.drewN n) from fun n => ⟨g, i, ks, kids, y, rfl, rfl, h.drewN n, hy, hf1, hf2, by omega, by omega, Nat.le_refl _, by omega, (Gw.refl _).drewN n⟩)
      clear h hT hr hy hf1 hf2 hym h1 h3 hs hbb hp hnum
      go_wp2
      go_meet
      exact FIN.out _
    · have hs : y.m < (most ord d + 1) / 2 := of_decide_eq_true hbb
      obtain ⟨j, hj⟩ : ∃ j, i - 1 = j := ⟨_, rfl⟩
      have hj1 : j + 1 < kids.length := by omega
      obtain ⟨a, ha⟩ : ∃ a, kids[j]? = some a := ⟨_, List.getElem?_eq_getElem (by omega)⟩
      obtain ⟨b, hb⟩ : ∃ b, kids[j + 1]? = some b := ⟨_, List.getElem?_eq_getElem hj1⟩
      obtain ⟨s, hs2⟩ : ∃ s, ks[j]? = some s := ⟨_, List.getElem?_eq_getElem (by omega)⟩
      have ea : a.m + b.m ≤ 2 * most ord d ∧ (most ord d + 1) / 2 ≤ a.m + b.m := by
        rcases Nat.eq_zero_or_pos i with h0 | h0
        · have hya : a = y := by rw [show j = i by omega, hy] at ha; cases ha; rfl
          have hb' := hf2 b (by rw [List.mem_iff_getElem?]; exact ⟨0, by rw [List.getElem?_drop, show i + 1 + 0 = j + 1 by omega]; exact hb⟩)
          have := hb'.1; have := hb'.2
          subst hya; omega
        · have hyb : b = y := by rw [show j + 1 = i by omega, hy] at hb; cases hb; rfl
          have ha' := hf1 a (by rw [List.mem_iff_getElem?]; exact ⟨j, by rw [List.getElem?_take_of_lt (by omega)]; exact ha⟩)
          have := ha'.1; have := ha'.2
          subst hyb; omega
      have hfK1 : ∀ x ∈ kids.take j, Fit ord d x.m := fun x hx => hf1 x ((List.take_sublist_take_left (by omega)).subset hx)
      have hfK2 : ∀ x ∈ kids.drop (j + 2), Fit ord d x.m := fun x hx => hf2 x ((List.drop_sublist_drop_left _ (by omega)).subset hx)
      have ham := h.is a (List.mem_of_getElem? ha)
      have hbm := h.is b (List.mem_of_getElem? hb)
      have hab : a.ps.length + b.ps.length ≤ ps.length := by
        have := (h.joined ha hb (one := ⟨.nilIface, a.ps ++ b.ps, 0⟩) rfl).2
        have h5 := congrArg List.length this
        simp [kidsP] at h5
        omega
      have hjks : j < ks.length := (List.getElem?_eq_some_iff.1 hs2).1
      have JN := Lib.hid fun (W : World) (hW : Gw w W) => wjoin ho (ham.gw hW) (hbm.gw hW) (fun p hp => h.below j s hs2 p (by rw [List.take_add_one, ha, Option.toList_some, kidsP_app]; exact List.mem_append_right _ (by simpa [kidsP] using hp))) (fun p hp => h.above j s hs2 p (by obtain ⟨h3, h4⟩ := List.getElem?_eq_some_iff.1 hb; rw [List.drop_eq_getElem_cons h3, h4, kidsP_cons]; exact List.mem_append_left _ hp)) (by omega) (by omega)
      have hjo := fun v m => h.joined ha hb (one := ⟨v, a.ps ++ b.ps, m⟩) rfl
      obtain ⟨p1, hp1⟩ : ∃ p1, j + 1 = p1 := ⟨_, rfl⟩
      obtain ⟨p2, hp2⟩ : ∃ p2, j + 2 = p2 := ⟨_, rfl⟩
      rw [hp1] at hb hj1
      rw [hp1, hp2] at hjo
      rw [hp2] at hfK2
      have SS := Lib.hid fun (W : World) (hW : Gw w W) => wswappedS W A none ks.length c 0 0 j p1 (ks.map Value.string) [] (h1.gw hW) h2 (VB.empty _ _) (by omega) (by omega) (by omega) (by decide)
      have SN := Lib.hid fun (W : World) (hW : Gw w W) (b' : Nat) (v : Value) (hv : v.oneCell' = true) (hbb : Bl W b' [v]) => wswappedN W (some adB) (some ⟨b', 0, none⟩) kids.length e 1 1 j p2 (kids.map Kid.v) [v] (h3.gw hW) h4 (hbb.vb (by simpa using hv) rfl) (by omega) (by omega) (by omega) (by decide)
      rw [show (ks.map Value.string).take j ++ ([] ++ (ks.map Value.string).drop p1) = (ks.take j ++ ks.drop p1).map Value.string by simp [List.map_take, List.map_drop]] at SS
      have LS := Lib.hid (show ((ks.take j ++ ks.drop p1).map Value.string).length = ks.length - 1 by simp; omega)
      have NI := Lib.hid fun (W : World) (hW : Gw w W) (v : Value) (hv : NodeAt ord W d v (a.ps ++ b.ps) (a.m + b.m)) => newInnerC (ord := ord) (d := d) (W := W) (ks := ks.take j ++ ks.drop p1) (kids := kids.take j ++ ⟨v, a.ps ++ b.ps, a.m + b.m⟩ :: kids.drop p2) (n := ks.length - 1) (m := kids.length - 1) (by simp; omega) (by simp; omega) (fun x hx => by
        rcases List.mem_append.1 hx with hx | hx
        · exact (h.is x (List.mem_of_mem_take hx)).gw hW
        · rcases List.mem_cons.1 hx with rfl | hx
          · exact hv
          · exact (h.is x (List.mem_of_mem_drop hx)).gw hW) (by omega) (hjo v _).1 (by rw [(hjo v _).2]; exact hp) (by omega)
      have SNE := Lib.hid fun (v : Value) => (show (kids.map Kid.v).take j ++ ([v] ++ (kids.map Kid.v).drop p2) = (kids.take j ++ (⟨v, a.ps ++ b.ps, a.m + b.m⟩ : Kid) :: kids.drop p2).map Kid.v by simp [List.map_take, List.map_drop])
      have LN := Lib.hid fun (v : Value) => (show ((kids.take j ++ (⟨v, a.ps ++ b.ps, a.m + b.m⟩ : Kid) :: kids.drop p2).map Kid.v).length = kids.length - 1 by simp; omega)
      have FIN := Lib.hid (show ∀ W g' v, InC (NodeAt ord W d) W g' (kidsP (kids.take j ++ (⟨v, a.ps ++ b.ps, a.m + b.m⟩ : Kid) :: kids.drop p2)) (ks.take j ++ ks.drop p1) (kids.take j ++ ⟨v, a.ps ++ b.ps, a.m + b.m⟩ :: kids.drop p2) → Gw w W → MendAt ord d w ps kids.length (.pointer (some ⟨g', 0, none⟩)) (.int .i64 (j : Nat)) W from fun W g' v hI hW => by
        rw [(hjo v _).2] at hI
        have hlj : (kids.take j).length = j := by rw [List.length_take]; omega
        refine ⟨g', j, _, _, ⟨v, a.ps ++ b.ps, a.m + b.m⟩, rfl, rfl, hI, by rw [List.getElem?_append_right (by omega), hlj]; simp, ?_, ?_, ea.2, ea.1, by simp; omega, by simp; omega, hW⟩
        · intro x hx
          rw [List.take_append_of_le_length (by omega), List.take_of_length_le (by omega)] at hx
          exact hfK1 x hx
        · intro x hx
          rw [List.drop_append, hlj, List.drop_eq_nil_of_le (by omega), List.nil_append, show j + 1 - j = 1 by omega, List.drop_succ_cons, List.drop_zero] at hx
          exact hfK2 x hx)
      obtain ⟨adA, hadA, cs⟩ := h1.at_ (k := j) (u := .string s) (by simp [hs2])
      subst hadA
      obtain ⟨ad', e', ca⟩ := h3.at_ (k := j) (u := a.v) (by simp [ha])
      cases e'
      obtain ⟨ad', e', cb⟩ := h3.at_ (k := p1) (u := b.v) (by simp [hb])
      cases e'
      have CE := Lib.hid fun W (hW : Gw w W) => (⟨keep_below c0 hW, keep_below c1 hW, keep_below cs hW, keep_below ca hW, keep_below cb hW⟩ : _ ∧ _ ∧ _ ∧ _ ∧ _)
      have em : max ((i : Int) - 1) 0 = (j : Int) := by omega
      have ew : IntKind.i64.wrap ((i : Int) - 1) = (i : Int) - 1 := by rw [IntKind.wrap_i64]; omega
      have ej1 : IntKind.i64.wrap ((j : Int) + 1) = (p1 : Int) := by rw [IntKind.wrap_i64]; omega
      have ej2 : IntKind.i64.wrap ((j : Int) + 2) = (p2 : Int) := by rw [IntKind.wrap_i64]; omega
      have b1 : (j : Int) < (kids.length : Int) := by omega
      have b2 : (p1 : Int) < (kids.length : Int) := by omega
      have b3 : (j : Int) < (ks.length : Int) := by omega
      have HNUM := Lib.hid hnum
      go_upto_region 2 with fail
      go_cut [2] (fun t2 wr => t2 = .int .i64 (j : Nat) ∧ wr = w.drewN n)
      case first =>
        rcases Nat.eq_zero_or_pos i with h0 | h0
        · have hz : (i : Int) - 1 < 0 := by omega
          have hj0 : j = 0 := by omega
          clear h hT hr hy hf1 hf2 hym h1 h3 hs ea hfK1 hfK2 ham hbm hab hjo ha hb hs2 hp hp1 hp2 hnum
          go_wp2
          go_meet
          exact ⟨by rw [hj0]; rfl, rfl⟩
        · have hz : ¬ (i : Int) - 1 < 0 := by omega
          have hj0 : (i : Int) - 1 = (j : Int) := by omega
          clear h hT hr hy hf1 hf2 hym h1 h3 hs ea hfK1 hfK2 ham hbm hab hjo ha hb hs2 hp hp1 hp2 hnum
          have HJ0 := Lib.hid hj0
          clear hj0 em
          go_wp2
          go_meet
          exact ⟨by rw [← HJ0.out], rfl⟩
      rename_i K3 hK3 K2 hK2
      obtain ⟨rfl, rfl⟩ := hcut
      refine hK2 _ _ ?_
      clear h hT hr hy hf1 hf2 hym h1 h3 hs ea hfK1 hfK2 ham hbm hab hjo cs ca cb ha hb hs2 hj hp hnum hp1 hp2 ci CSm em ew
      go_wp2
      go_region_held3 (fun W => W.cell? ⟨g, 0, none⟩ = some (.slice (some adA) ks.length c) ∧ W.cell? ⟨g, 1, none⟩ = some (.slice (some adB) kids.length e) ∧ W.cell? (adA.add j) = some (.string s) ∧ W.cell? (adB.add j) = some a.v ∧ W.cell? (adB.add p1) = some b.v) (exact CE.out _ (by (repeat' (first | with_reducible exact Gw.refl _ | with_reducible exact B5.out | with_reducible exact B6.out | with_reducible exact B7.out | with_reducible exact B8.out | with_reducible exact B9.out | with_reducible refine Gw.alloc ?_ _ | with_reducible refine Gw.drew ?_ | with_reducible refine Gw.drewN ?_ _ | with_reducible refine Gw.trans ?_ B5.out | with_reducible refine Gw.trans ?_ B6.out | with_reducible refine Gw.trans ?_ B7.out | with_reducible refine Gw.trans ?_ B8.out | with_reducible refine Gw.trans ?_ B9.out)))) (first | (go_at_call 74; go_loud (refine (JN.out _ (by (repeat' (first | with_reducible exact Gw.refl _ | with_reducible exact B5.out | with_reducible exact B6.out | with_reducible exact B7.out | with_reducible exact B8.out | with_reducible exact B9.out | with_reducible refine Gw.alloc ?_ _ | with_reducible refine Gw.drew ?_ | with_reducible refine Gw.drewN ?_ _ | with_reducible refine Gw.trans ?_ B5.out | with_reducible refine Gw.trans ?_ B6.out | with_reducible refine Gw.trans ?_ B7.out | with_reducible refine Gw.trans ?_ B8.out | with_reducible refine Gw.trans ?_ B9.out)))).mono ?_; rintro e w7 ⟨v7, rfl, n7, b7⟩; obtain ⟨tt, g7, hv7⟩ := n7.form; subst hv7; have N7 := Lib.hid n7; have B7 := Lib.hid b7; clear n7 b7 JN)))
      go_upto_region 4 with fail
      go_region_held3 (fun W => W.cell? ⟨g, 0, none⟩ = some (.slice (some adA) ks.length c) ∧ W.cell? ⟨g, 1, none⟩ = some (.slice (some adB) kids.length e) ∧ W.cell? (adA.add j) = some (.string s) ∧ W.cell? (adB.add j) = some a.v ∧ W.cell? (adB.add p1) = some b.v) (exact CE.out _ (by (repeat' (first | with_reducible exact Gw.refl _ | with_reducible exact B5.out | with_reducible exact B6.out | with_reducible exact B7.out | with_reducible exact B8.out | with_reducible exact B9.out | with_reducible refine Gw.alloc ?_ _ | with_reducible refine Gw.drew ?_ | with_reducible refine Gw.drewN ?_ _ | with_reducible refine Gw.trans ?_ B5.out | with_reducible refine Gw.trans ?_ B6.out | with_reducible refine Gw.trans ?_ B7.out | with_reducible refine Gw.trans ?_ B8.out | with_reducible refine Gw.trans ?_ B9.out)))) (first
        | (go_at_call 59; go_loud (refine (SS.out _ (by (repeat' (first | with_reducible exact Gw.refl _ | with_reducible exact B5.out | with_reducible exact B6.out | with_reducible exact B7.out | with_reducible exact B8.out | with_reducible exact B9.out | with_reducible refine Gw.alloc ?_ _ | with_reducible refine Gw.drew ?_ | with_reducible refine Gw.drewN ?_ _ | with_reducible refine Gw.trans ?_ B5.out | with_reducible refine Gw.trans ?_ B6.out | with_reducible refine Gw.trans ?_ B7.out | with_reducible refine Gw.trans ?_ B8.out | with_reducible refine Gw.trans ?_ B9.out)))).mono ?_; intro e w8 hm; obtain ⟨A8, c8, rfl, r8, hc8, b8⟩ := hm.got2 LS.out; have R8 := Lib.hid r8; have C8 := Lib.hid hc8; have B8 := Lib.hid b8; clear hm r8 hc8 b8))
        | (go_at_call 66; go_loud (refine (SN.out _ (by (repeat' (first | with_reducible exact Gw.refl _ | with_reducible exact B5.out | with_reducible exact B6.out | with_reducible exact B7.out | with_reducible exact B8.out | with_reducible exact B9.out | with_reducible refine Gw.alloc ?_ _ | with_reducible refine Gw.drew ?_ | with_reducible refine Gw.drewN ?_ _ | with_reducible refine Gw.trans ?_ B5.out | with_reducible refine Gw.trans ?_ B6.out | with_reducible refine Gw.trans ?_ B7.out | with_reducible refine Gw.trans ?_ B8.out | with_reducible refine Gw.trans ?_ B9.out))) _ _ N7.out.one (by (repeat' (first | exact Bl.here (by decide) (by first | rfl | simp) | with_reducible refine Bl.alloc ?_ _ | with_reducible refine Bl.drew ?_ | with_reducible refine Bl.drewN ?_ _ | with_reducible refine Bl.gw ?_ B5.out | with_reducible refine Bl.gw ?_ B6.out | with_reducible refine Bl.gw ?_ B7.out | with_reducible refine Bl.gw ?_ B8.out | with_reducible refine Bl.gw ?_ B9.out)))).mono ?_; intro e w9 hm; rw [SNE.out] at hm; obtain ⟨A9, c9, rfl, r9, hc9, b9⟩ := hm.got2 (LN.out _); have R9 := Lib.hid r9; have C9 := Lib.hid hc9; have B9 := Lib.hid b9; clear hm r9 hc9 b9))
        | (go_at_call 57; go_loud (refine (NI.out _ (by (repeat' (first | with_reducible exact Gw.refl _ | with_reducible exact B5.out | with_reducible exact B6.out | with_reducible exact B7.out | with_reducible exact B8.out | with_reducible exact B9.out | with_reducible refine Gw.alloc ?_ _ | with_reducible refine Gw.drew ?_ | with_reducible refine Gw.drewN ?_ _ | with_reducible refine Gw.trans ?_ B5.out | with_reducible refine Gw.trans ?_ B6.out | with_reducible refine Gw.trans ?_ B7.out | with_reducible refine Gw.trans ?_ B8.out | with_reducible refine Gw.trans ?_ B9.out))) _ (N7.out.gw (by (repeat' (first | with_reducible exact Gw.refl _ | with_reducible exact B5.out | with_reducible exact B6.out | with_reducible exact B7.out | with_reducible exact B8.out | with_reducible exact B9.out | with_reducible refine Gw.alloc ?_ _ | with_reducible refine Gw.drew ?_ | with_reducible refine Gw.drewN ?_ _ | with_reducible refine Gw.trans ?_ B5.out | with_reducible refine Gw.trans ?_ B6.out | with_reducible refine Gw.trans ?_ B7.out | with_reducible refine Gw.trans ?_ B8.out | with_reducible refine Gw.trans ?_ B9.out)))) _ _ (R8.out.gw (by (repeat' (first | with_reducible exact Gw.refl _ | with_reducible exact B5.out | with_reducible exact B6.out | with_reducible exact B7.out | with_reducible exact B8.out | with_reducible exact B9.out | with_reducible refine Gw.alloc ?_ _ | with_reducible refine Gw.drew ?_ | with_reducible refine Gw.drewN ?_ _ | with_reducible refine Gw.trans ?_ B5.out | with_reducible refine Gw.trans ?_ B6.out | with_reducible refine Gw.trans ?_ B7.out | with_reducible refine Gw.trans ?_ B8.out | with_reducible refine Gw.trans ?_ B9.out)))) C8.out _ _ (R9.out.gw (by (repeat' (first | with_reducible exact Gw.refl _ | with_reducible exact B5.out | with_reducible exact B6.out | with_reducible exact B7.out | with_reducible exact B8.out | with_reducible exact B9.out | with_reducible refine Gw.alloc ?_ _ | with_reducible refine Gw.drew ?_ | with_reducible refine Gw.drewN ?_ _ | with_reducible refine Gw.trans ?_ B5.out | with_reducible refine Gw.trans ?_ B6.out | with_reducible refine Gw.trans ?_ B7.out | with_reducible refine Gw.trans ?_ B8.out | with_reducible refine Gw.trans ?_ B9.out)))) C9.out).mono ?_; rintro e w6 ⟨g6, rfl, i6, b6⟩; have I6 := Lib.hid i6; have B6 := Lib.hid b6; clear i6 b6)))
      all_goals go_wp2
      all_goals go_meet
      all_goals exact FIN.out _ _ _ I6.out (by (repeat' (first | with_reducible exact Gw.refl _ | with_reducible exact B5.out | with_reducible exact B6.out | with_reducible exact B7.out | with_reducible exact B8.out | with_reducible exact B9.out | with_reducible refine Gw.alloc ?_ _ | with_reducible refine Gw.drew ?_ | with_reducible refine Gw.drewN ?_ _ | with_reducible refine Gw.trans ?_ B5.out | with_reducible refine Gw.trans ?_ B6.out | with_reducible refine Gw.trans ?_ B7.out | with_reducible refine Gw.trans ?_ B8.out | with_reducible refine Gw.trans ?_ B9.out)))
  case rest =>
    have HGW := Lib.hid (show ∀ W, Gw wc W → Gw w W from fun W hW => by
      obtain ⟨-, -, -, -, -, -, -, -, -, -, -, -, -, -, -, hg⟩ := hcut
      exact hg.trans hW)
    have HL := Lib.hid hk2
    have HMO := Lib.hid hmo
    have HMO2 := Lib.hid hmo2
    clear h hy hf1 hf2 hym h1 h3 hy1 hy2 hnum hbb CSm ci hT hr hp i1 hil c0 c1
    obtain ⟨g1, i1, ks1, kids1, y1, rfl, rfl, hC, hy, hf1, hf2, hlo, hhi, hl1, hl2, -⟩ := hcut
    have hT := HGW.out wc (Gw.refl _)
    have hT := HT.out.gw hT
    have hym := hC.is y1 (List.mem_of_getElem? hy)
    have hnum := hC.num
    have hil := (List.getElem?_eq_some_iff.1 hy).1
    have hpl := HP.out
    obtain ⟨A, c, B, e, c0, c1, h1, h2, h3, h4⟩ := hC.cells
    obtain ⟨adB, hadB, ci⟩ := h3.at_ (k := i1) (u := y1.v) (by simp [hy])
    subst hadB
    have CL := Lib.hid (wlarge hT hym (by omega) (by omega))
    have ii : (i1 : Int) < (kids1.length : Int) := by omega
    refine hK1 _ _ ?_
    by_cases hs : most ord d < y1.m
    · have hdec : decide (most ord d < y1.m) = true := decide_eq_true hs
      rw [hdec] at CL
      have hyp : Rises (keys y1.ps) := by
        have hr := HR.out
        rw [hC.all, kidsP_cut kids1 i1 y1 hy] at hr
        exact rises_mid hr
      have hyl : y1.ps.length ≤ ps.length := by
        rw [hC.all, kidsP_cut kids1 i1 y1 hy]; simp; omega
      obtain ⟨s, X, Y, hXY, b1, b2, n1, n2, cs⟩ := wsplit ho hym hyp (by omega) (by omega) (by omega)
      have CS := Lib.hid cs
      have hkn : kids1.length ≤ 200 := by have := HL.out; omega
      have hsp := fun vl vr ml mr => hC.splitted hy (l := ⟨vl, X, ml⟩) (r := ⟨vr, Y, mr⟩) hXY b1 b2 n1 n2
      obtain ⟨p1, hp1⟩ : ∃ p1, i1 + 1 = p1 := ⟨_, rfl⟩
      rw [hp1] at hsp hf2
      have hik : i1 ≤ ks1.length := by omega
      have SS := Lib.hid fun (W : World) (hW : Gw wc W) (b : Nat) (hbb : Bl W b [.string s]) => wswappedS W A (some ⟨b, 0, none⟩) ks1.length c 1 1 i1 i1 (ks1.map Value.string) [.string s] (h1.gw hW) h2 (hbb.vb (by simp; rfl) rfl) (Nat.le_refl _) hik (by omega) (by decide)
      have SN := Lib.hid fun (W : World) (hW : Gw wc W) (b' : Nat) (vl vr : Value) (hv : vl.oneCell' = true) (hv2 : vr.oneCell' = true) (hbb : Bl W b' [vl, vr]) => wswappedN W (some adB) (some ⟨b', 0, none⟩) kids1.length e 2 2 i1 p1 (kids1.map Kid.v) [vl, vr] (h3.gw hW) h4 (hbb.vb (by simp [hv, hv2]) rfl) (by omega) (by omega) (by omega) (by decide)
      rw [show (ks1.map Value.string).take i1 ++ ([Value.string s] ++ (ks1.map Value.string).drop i1) = (ks1.take i1 ++ s :: ks1.drop i1).map Value.string by simp [List.map_take, List.map_drop]] at SS
      have LS := Lib.hid (show ((ks1.take i1 ++ s :: ks1.drop i1).map Value.string).length = ks1.length + 1 by simp; omega)
      have SNE := Lib.hid fun (vl vr : Value) => (show (kids1.map Kid.v).take i1 ++ ([vl, vr] ++ (kids1.map Kid.v).drop p1) = (kids1.take i1 ++ (⟨vl, X, y1.m / 2⟩ : Kid) :: (⟨vr, Y, y1.m - y1.m / 2⟩ : Kid) :: kids1.drop p1).map Kid.v by simp [List.map_take, List.map_drop])
      have LN := Lib.hid fun (vl vr : Value) => (show ((kids1.take i1 ++ (⟨vl, X, y1.m / 2⟩ : Kid) :: (⟨vr, Y, y1.m - y1.m / 2⟩ : Kid) :: kids1.drop p1).map Kid.v).length = kids1.length + 1 by simp; omega)
      have NI := Lib.hid fun (W : World) (hW : Gw wc W) (vl vr : Value) (hvl : NodeAt ord W d vl X (y1.m / 2)) (hvr : NodeAt ord W d vr Y (y1.m - y1.m / 2)) => newInnerC (ord := ord) (d := d) (W := W) (ks := ks1.take i1 ++ s :: ks1.drop i1) (kids := kids1.take i1 ++ ⟨vl, X, y1.m / 2⟩ :: ⟨vr, Y, y1.m - y1.m / 2⟩ :: kids1.drop p1) (n := ks1.length + 1) (m := kids1.length + 1) (by simp; omega) (by simp; omega) (fun x hx => by
        rcases List.mem_append.1 hx with hx | hx
        · exact (hC.is x (List.mem_of_mem_take hx)).gw hW
        · rcases List.mem_cons.1 hx with rfl | hx
          · exact hvl
          · rcases List.mem_cons.1 hx with rfl | hx
            · exact hvr
            · exact (hC.is x (List.mem_of_mem_drop hx)).gw hW) (by omega) (hsp vl vr _ _).1 (by rw [(hsp vl vr _ _).2]; exact hpl) (by omega)
      have FIN := Lib.hid (show ∀ W g' vl vr, InC (NodeAt ord W d) W g' (kidsP (kids1.take i1 ++ (⟨vl, X, y1.m / 2⟩ : Kid) :: (⟨vr, Y, y1.m - y1.m / 2⟩ : Kid) :: kids1.drop p1)) (ks1.take i1 ++ s :: ks1.drop i1) (kids1.take i1 ++ ⟨vl, X, y1.m / 2⟩ :: ⟨vr, Y, y1.m - y1.m / 2⟩ :: kids1.drop p1) → Gw wc W → MendIs ord d w ps kids.length (.returned (.pointer (some ⟨g', 0, none⟩))) W from fun W g' vl vr hI hW => by
        rw [(hsp vl vr _ _).2] at hI
        refine ⟨g', _, _, rfl, hI, ?_, by simp; omega, by simp; omega, HGW.out _ hW⟩
        intro x hx
        rcases List.mem_append.1 hx with hx | hx
        · exact hf1 x hx
        · rcases List.mem_cons.1 hx with rfl | hx
          · exact ⟨by show _ ≤ y1.m / 2; omega, by show y1.m / 2 ≤ _; omega⟩
          · rcases List.mem_cons.1 hx with rfl | hx
            · exact ⟨by show _ ≤ y1.m - y1.m / 2; omega, by show y1.m - y1.m / 2 ≤ _; omega⟩
            · exact hf2 x hx)
      have CE := Lib.hid fun W (hW : Gw wc W) => (⟨keep_below c0 hW, keep_below c1 hW⟩ : _ ∧ _)
      have CI := Lib.hid fun n => (show (wc.drewN n).cell? (adB.add i1) = some y1.v from ci)
      have ep1 : IntKind.i64.wrap ((i1 : Int) + 1) = (p1 : Int) := by rw [IntKind.wrap_i64]; omega
      clear hC hT hy hf1 hf2 hym h1 h3 hs hdec hnum hsp hXY b1 b2 n1 n2 hyp hyl hp1 hik cs
      go_upto_region 7 with (first
        | (go_at_call 55; refine CL.out.mono ?_; rintro e w1 ⟨rfl, n, rfl⟩; clear CL)
        | (go_at_call 56; go_loud (refine (CS.out _ ((Gw.refl _).drewN _)).mono ?_; rintro e w5 ⟨vl, vr, rfl, nl, nr, b5⟩; obtain ⟨tl, gl, hvl⟩ := nl.form; subst hvl; obtain ⟨t_r, gr, hvr⟩ := nr.form; subst hvr; have NL := Lib.hid nl; have NR := Lib.hid nr; have B5 := Lib.hid b5; obtain ⟨k0, k1⟩ := CE.out w5 (((Gw.refl wc).drewN _).trans b5); clear nl nr b5 CS)))
      go_region_held3 (fun W => W.cell? ⟨g1, 0, none⟩ = some (.slice A ks1.length c) ∧ W.cell? ⟨g1, 1, none⟩ = some (.slice (some adB) kids1.length e)) (exact CE.out _ (by (repeat' (first | with_reducible exact Gw.refl _ | with_reducible exact B5.out | with_reducible exact B6.out | with_reducible exact B7.out | with_reducible exact B8.out | with_reducible exact B9.out | with_reducible refine Gw.alloc ?_ _ | with_reducible refine Gw.drew ?_ | with_reducible refine Gw.drewN ?_ _ | with_reducible refine Gw.trans ?_ B5.out | with_reducible refine Gw.trans ?_ B6.out | with_reducible refine Gw.trans ?_ B7.out | with_reducible refine Gw.trans ?_ B8.out | with_reducible refine Gw.trans ?_ B9.out)))) (first
        | (go_at_call 59; go_loud (refine (SS.out _ (by (repeat' (first | with_reducible exact Gw.refl _ | with_reducible exact B5.out | with_reducible exact B6.out | with_reducible exact B7.out | with_reducible exact B8.out | with_reducible exact B9.out | with_reducible refine Gw.alloc ?_ _ | with_reducible refine Gw.drew ?_ | with_reducible refine Gw.drewN ?_ _ | with_reducible refine Gw.trans ?_ B5.out | with_reducible refine Gw.trans ?_ B6.out | with_reducible refine Gw.trans ?_ B7.out | with_reducible refine Gw.trans ?_ B8.out | with_reducible refine Gw.trans ?_ B9.out))) _ (by (repeat' (first | exact Bl.here (by decide) (by first | rfl | simp) | with_reducible refine Bl.alloc ?_ _ | with_reducible refine Bl.drew ?_ | with_reducible refine Bl.drewN ?_ _ | with_reducible refine Bl.gw ?_ B5.out | with_reducible refine Bl.gw ?_ B6.out | with_reducible refine Bl.gw ?_ B7.out | with_reducible refine Bl.gw ?_ B8.out | with_reducible refine Bl.gw ?_ B9.out)))).mono ?_; intro e w8 hm; obtain ⟨A8, c8, rfl, r8, hc8, b8⟩ := hm.got2 LS.out; have R8 := Lib.hid r8; have C8 := Lib.hid hc8; have B8 := Lib.hid b8; clear hm r8 hc8 b8))
        | (go_at_call 66; go_loud (refine (SN.out _ (by (repeat' (first | with_reducible exact Gw.refl _ | with_reducible exact B5.out | with_reducible exact B6.out | with_reducible exact B7.out | with_reducible exact B8.out | with_reducible exact B9.out | with_reducible refine Gw.alloc ?_ _ | with_reducible refine Gw.drew ?_ | with_reducible refine Gw.drewN ?_ _ | with_reducible refine Gw.trans ?_ B5.out | with_reducible refine Gw.trans ?_ B6.out | with_reducible refine Gw.trans ?_ B7.out | with_reducible refine Gw.trans ?_ B8.out | with_reducible refine Gw.trans ?_ B9.out))) _ _ _ NL.out.one NR.out.one (by (repeat' (first | exact Bl.here (by decide) (by first | rfl | simp) | with_reducible refine Bl.alloc ?_ _ | with_reducible refine Bl.drew ?_ | with_reducible refine Bl.drewN ?_ _ | with_reducible refine Bl.gw ?_ B5.out | with_reducible refine Bl.gw ?_ B6.out | with_reducible refine Bl.gw ?_ B7.out | with_reducible refine Bl.gw ?_ B8.out | with_reducible refine Bl.gw ?_ B9.out)))).mono ?_; intro e w9 hm; rw [SNE.out] at hm; obtain ⟨A9, c9, rfl, r9, hc9, b9⟩ := hm.got2 (LN.out _ _); have R9 := Lib.hid r9; have C9 := Lib.hid hc9; have B9 := Lib.hid b9; clear hm r9 hc9 b9))
        | (go_at_call 57; go_loud (refine (NI.out _ (by (repeat' (first | with_reducible exact Gw.refl _ | with_reducible exact B5.out | with_reducible exact B6.out | with_reducible exact B7.out | with_reducible exact B8.out | with_reducible exact B9.out | with_reducible refine Gw.alloc ?_ _ | with_reducible refine Gw.drew ?_ | with_reducible refine Gw.drewN ?_ _ | with_reducible refine Gw.trans ?_ B5.out | with_reducible refine Gw.trans ?_ B6.out | with_reducible refine Gw.trans ?_ B7.out | with_reducible refine Gw.trans ?_ B8.out | with_reducible refine Gw.trans ?_ B9.out))) _ _ (NL.out.gw (by (repeat' (first | with_reducible exact Gw.refl _ | with_reducible exact B5.out | with_reducible exact B6.out | with_reducible exact B7.out | with_reducible exact B8.out | with_reducible exact B9.out | with_reducible refine Gw.alloc ?_ _ | with_reducible refine Gw.drew ?_ | with_reducible refine Gw.drewN ?_ _ | with_reducible refine Gw.trans ?_ B5.out | with_reducible refine Gw.trans ?_ B6.out | with_reducible refine Gw.trans ?_ B7.out | with_reducible refine Gw.trans ?_ B8.out | with_reducible refine Gw.trans ?_ B9.out)))) (NR.out.gw (by (repeat' (first | with_reducible exact Gw.refl _ | with_reducible exact B5.out | with_reducible exact B6.out | with_reducible exact B7.out | with_reducible exact B8.out | with_reducible exact B9.out | with_reducible refine Gw.alloc ?_ _ | with_reducible refine Gw.drew ?_ | with_reducible refine Gw.drewN ?_ _ | with_reducible refine Gw.trans ?_ B5.out | with_reducible refine Gw.trans ?_ B6.out | with_reducible refine Gw.trans ?_ B7.out | with_reducible refine Gw.trans ?_ B8.out | with_reducible refine Gw.trans ?_ B9.out)))) _ _ (R8.out.gw (by (repeat' (first | with_reducible exact Gw.refl _ | with_reducible exact B5.out | with_reducible exact B6.out | with_reducible exact B7.out | with_reducible exact B8.out | with_reducible exact B9.out | with_reducible refine Gw.alloc ?_ _ | with_reducible refine Gw.drew ?_ | with_reducible refine Gw.drewN ?_ _ | with_reducible refine Gw.trans ?_ B5.out | with_reducible refine Gw.trans ?_ B6.out | with_reducible refine Gw.trans ?_ B7.out | with_reducible refine Gw.trans ?_ B8.out | with_reducible refine Gw.trans ?_ B9.out)))) C8.out _ _ (R9.out.gw (by (repeat' (first | with_reducible exact Gw.refl _ | with_reducible exact B5.out | with_reducible exact B6.out | with_reducible exact B7.out | with_reducible exact B8.out | with_reducible exact B9.out | with_reducible refine Gw.alloc ?_ _ | with_reducible refine Gw.drew ?_ | with_reducible refine Gw.drewN ?_ _ | with_reducible refine Gw.trans ?_ B5.out | with_reducible refine Gw.trans ?_ B6.out | with_reducible refine Gw.trans ?_ B7.out | with_reducible refine Gw.trans ?_ B8.out | with_reducible refine Gw.trans ?_ B9.out)))) C9.out).mono ?_; rintro e w6 ⟨g6, rfl, i6, b6⟩; have I6 := Lib.hid i6; have B6 := Lib.hid b6; clear i6 b6)))
      all_goals go_wp2
      all_goals go_ret
      all_goals exact FIN.out _ _ _ _ I6.out (by (repeat' (first | with_reducible exact Gw.refl _ | with_reducible exact B5.out | with_reducible exact B6.out | with_reducible exact B7.out | with_reducible exact B8.out | with_reducible exact B9.out | with_reducible refine Gw.alloc ?_ _ | with_reducible refine Gw.drew ?_ | with_reducible refine Gw.drewN ?_ _ | with_reducible refine Gw.trans ?_ B5.out | with_reducible refine Gw.trans ?_ B6.out | with_reducible refine Gw.trans ?_ B7.out | with_reducible refine Gw.trans ?_ B8.out | with_reducible refine Gw.trans ?_ B9.out)))
    · have hdec : decide (most ord d < y1.m) = false := decide_eq_false hs
      rw [hdec] at CL
      have FIN := Lib.hid (show ∀ n, MendIs ord d w ps kids.length (.returned (.pointer (some ⟨g1, 0, none⟩))) (wc.drewN n) from fun n => ⟨g1, ks1, kids1, rfl, hC.drewN n, fun x hx => by
        rw [cut_at kids1 i1 y1 hy] at hx
        rcases List.mem_append.1 hx with hx | hx
        · exact hf1 x hx
        · rcases List.mem_cons.1 hx with rfl | hx
          · exact ⟨hlo, by omega⟩
          · exact hf2 x hx, by omega, hl2, HGW.out _ ((Gw.refl _).drewN n)⟩)
      clear hC hT hy hf1 hf2 hym h1 h3 hs hdec hnum
      go_wp2_with (go_at_call 55; refine CL.out.mono ?_; rintro e w1 ⟨rfl, n, rfl⟩)
      go_ret
      exact FIN.out _
end Go.Proofs.Ytlhpoliiojekeaa
