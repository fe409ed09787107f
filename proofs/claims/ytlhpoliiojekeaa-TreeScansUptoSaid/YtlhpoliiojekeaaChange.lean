/- change: the root behind a change of one leaf. -/
import Derived.Test.YtlhpoliiojekeaaXt
namespace Go.Proofs.Ytlhpoliiojekeaa
set_option maxRecDepth 100000
open Go.RowKit

def ChangeIs (T ord : Nat) (w : World) (ps : List Pr) (e : Ending) (w' : World) : Prop := e = .returned (.tuple #[]) ∧ TreeAt w' T ord ps ∧ Xt T w w'
set_option maxHeartbeats 16000000 in
theorem wchange {ord T d m : Nat} {root f : Value} {k : ByteArray} {F : List Pr → List Pr} {w : World} {ps : List Pr} (ho : 3 ≤ ord) (ho2 : ord ≤ 64) (hT : TrAt w T ord root) (hF : Chg k F) (ih : ChangedAll ord T f k F w d)
    (h : NodeAt ord w d root ps m) (hr : Rises (keys ps)) (hm : m ≤ most ord d) (h2m : 1 ≤ d → 2 ≤ m) (hp : ps.length ≤ 100000000000000000) :
    Calls Try.prog 40 #[.pointer (some ⟨T, 0, none⟩), .string k, f] w (ChangeIs T ord w (F ps)) := by
  have hmo : most ord d ≤ 64 := by unfold most; split <;> omega
  have hmo2 : 2 ≤ most ord d := by unfold most; split <;> omega
  have CR := Lib.hid (ih w root ps m (Gw.refl _) h hr h2m (by omega) (by omega))
  have hFr := hF.rises ps hr
  have hFl := hF.up ps
  obtain ⟨Q, hQ⟩ : ∃ Q, F ps = Q := ⟨_, rfl⟩
  rw [hQ] at CR hFr hFl ⊢
  have c1 := hT.c1
  clear hF ih h hr hQ
  go_enter Try.func40, Try.ntmps40
  go_upto_region 0 with fail
  go_cut [6] (fun t6 wr => ∃ m', NodeAt ord wr d t6 Q m' ∧ m' ≤ m + 1 ∧ m ≤ m' + 1 ∧ Gw w wr)
  case first =>
    go_wp2_with (go_at_call 54; refine CR.out.mono ?_; rintro e w5 ⟨v5, m5, rfl, n5, hm5, hm6, b5⟩; have N5 := Lib.hid n5; have M5 := Lib.hid hm5; have M6 := Lib.hid hm6; have B5 := Lib.hid b5; clear n5 b5 hm5 hm6 CR)
    go_meet
    exact ⟨m5, N5.out, M5.out, M6.out, B5.out⟩
  case rest =>
    rename_i K1 hK1
    obtain ⟨m', hn, hm1, hm2, hg⟩ := hcut
    refine hK1 _ _ ?_
    have hTc := hT.gw hg
    have CL := Lib.hid (wlarge hTc hn (by omega) (by omega))
    have HG := Lib.hid hg
    have HT := Lib.hid hTc
    have HR := Lib.hid hFr
    by_cases hs : most ord d < m'
    · have hdec : decide (most ord d < m') = true := decide_eq_true hs
      rw [hdec] at CL
      obtain ⟨s, X, Y, hXY, b1, b2, n1, n2, cs⟩ := wsplit ho hn hFr (by omega) (by omega) (by omega)
      have CS := Lib.hid cs
      have NI := Lib.hid fun (W : World) (hW : Gw wc W) (b b' : Nat) (vl vr : Value) (hvl : NodeAt ord W d vl X (m' / 2)) (hvr : NodeAt ord W d vr Y (m' - m' / 2)) (hb : Bl W b [.string s]) (hb' : Bl W b' [vl, vr]) => newInnerC (ord := ord) (d := d) (W := W) (ks := [s]) (kids := [⟨vl, X, m' / 2⟩, ⟨vr, Y, m' - m' / 2⟩]) (n := 1) (m := 2) rfl rfl (fun y hy => by
        simp only [List.mem_cons, List.not_mem_nil, or_false] at hy
        rcases hy with rfl | rfl
        · exact hvl
        · exact hvr) rfl (by
          rw [hXY, keys_app] at hFr
          have hpw := List.pairwise_append.1 hFr
          have := tok_split (U := []) (V := []) (a := ⟨vl, X, m' / 2⟩) (b := ⟨vr, Y, m' - m' / 2⟩) (y := ⟨vl, X ++ Y, 0⟩) (s := s) (by
            simp only [List.nil_append, List.append_nil, kt, keys_app, List.map_append]
            rw [← List.map_append, List.pairwise_map]
            exact hFr) rfl n1 n2 b1 b2
          simpa [toks] using this) (by simp only [kidsP, List.flatMap_cons, List.flatMap_nil, List.append_nil]; rw [← hXY]; omega) (by decide) _ 1 (hb.vb (by simp; rfl) rfl) (Nat.le_refl _) _ 2 (hb'.vb (by simp [hvl.one, hvr.one]) rfl) (Nat.le_refl _)
      have hXY2 : ∀ vl vr ml mr, kidsP [⟨vl, X, ml⟩, ⟨vr, Y, mr⟩] = Q := fun vl vr ml mr => by rw [hXY]; simp [kidsP]
      have FIN := Lib.hid (show ∀ W g' vl vr, InC (NodeAt ord W d) W g' (kidsP [(⟨vl, X, m' / 2⟩ : Kid), ⟨vr, Y, m' - m' / 2⟩]) [s] [⟨vl, X, m' / 2⟩, ⟨vr, Y, m' - m' / 2⟩] → Gw wc W → ChangeIs T ord w Q (.returned (.tuple #[])) (W.setCell ⟨T, 1, none⟩ (ip g')) from fun W g' vl vr hI hW => by
        rw [hXY2] at hI
        refine ⟨rfl, TreeAt.set (HT.out.gw hW) (d := d + 1) (m := 2) ⟨g', _, _, rfl, rfl, hI, fun x hx => ?_⟩ HR.out (by unfold most; simp; omega) (fun _ => Nat.le_refl _) ho ho2, Xt.set (HG.out.trans hW) 1 _⟩
        simp only [List.mem_cons, List.not_mem_nil, or_false] at hx
        rcases hx with rfl | rfl
        · exact ⟨by show _ ≤ m' / 2; omega, by show m' / 2 ≤ _; omega⟩
        · exact ⟨by show _ ≤ m' - m' / 2; omega, by show m' - m' / 2 ≤ _; omega⟩)
      have CE := Lib.hid fun W (hW : Gw wc W) => (⟨(hTc.gw hW).c0, (hTc.gw hW).c1⟩ : _ ∧ _)
      have t2 := ta_ii
      have HIC := Lib.hid (show ∀ (N : Value → List Pr → Nat → Prop) W g' P S vl vr ml mr, InC N W g' P S [(⟨vl, X, ml⟩ : Kid), ⟨vr, Y, mr⟩] → ∃ B e, W.cell? ⟨g', 1, none⟩ = some (.slice B 2 e) from fun N W g' P S vl vr ml mr hI => by
        obtain ⟨A, c, B, e, -, k1, -⟩ := hI.cells
        exact ⟨B, e, k1⟩)
      unfold ip at FIN
      have hlt := (Array.getElem?_eq_some_iff.1 hTc.row).1
      have HLT := Lib.hid hlt
      have HNT := Lib.hid (show ∀ W, Gw wc W → W.frozen? ⟨T, 1, none⟩ = false from fun W hW => by simp [World.frozen?, (hTc.gw hW).row])
      clear hT hn hTc hs hdec hXY hXY2 b1 b2 n1 n2 cs hg hFr c1 hlt
      go_wp2_with (first
        | (go_at_call 55; refine CL.out.mono ?_; rintro e w1 ⟨rfl, n, rfl⟩; clear CL)
        | (go_at_call 56; go_loud (refine (CS.out _ ((Gw.refl _).drewN _)).mono ?_; rintro e w5 ⟨vl, vr, rfl, nl, nr, b5⟩; obtain ⟨tl, gl, hvl⟩ := nl.form; subst hvl; obtain ⟨t_r, gr, hvr⟩ := nr.form; subst hvr; have NL := Lib.hid nl; have NR := Lib.hid nr; have B5 := Lib.hid b5; clear nl nr b5 CS))
        | (go_at_call 57; go_loud (refine (NI.out _ (by (repeat' (first | with_reducible exact Gw.refl _ | with_reducible exact B5.out | with_reducible exact B6.out | with_reducible exact B7.out | with_reducible exact B8.out | with_reducible exact B9.out | with_reducible refine Gw.alloc ?_ _ | with_reducible refine Gw.drew ?_ | with_reducible refine Gw.drewN ?_ _ | with_reducible refine Gw.trans ?_ B5.out | with_reducible refine Gw.trans ?_ B6.out | with_reducible refine Gw.trans ?_ B7.out | with_reducible refine Gw.trans ?_ B8.out | with_reducible refine Gw.trans ?_ B9.out))) _ _ _ _ (NL.out.gw (by (repeat' (first | with_reducible exact Gw.refl _ | with_reducible exact B5.out | with_reducible exact B6.out | with_reducible exact B7.out | with_reducible exact B8.out | with_reducible exact B9.out | with_reducible refine Gw.alloc ?_ _ | with_reducible refine Gw.drew ?_ | with_reducible refine Gw.drewN ?_ _ | with_reducible refine Gw.trans ?_ B5.out | with_reducible refine Gw.trans ?_ B6.out | with_reducible refine Gw.trans ?_ B7.out | with_reducible refine Gw.trans ?_ B8.out | with_reducible refine Gw.trans ?_ B9.out)))) (NR.out.gw (by (repeat' (first | with_reducible exact Gw.refl _ | with_reducible exact B5.out | with_reducible exact B6.out | with_reducible exact B7.out | with_reducible exact B8.out | with_reducible exact B9.out | with_reducible refine Gw.alloc ?_ _ | with_reducible refine Gw.drew ?_ | with_reducible refine Gw.drewN ?_ _ | with_reducible refine Gw.trans ?_ B5.out | with_reducible refine Gw.trans ?_ B6.out | with_reducible refine Gw.trans ?_ B7.out | with_reducible refine Gw.trans ?_ B8.out | with_reducible refine Gw.trans ?_ B9.out)))) (by (repeat' (first | exact Bl.here (by decide) (by first | rfl | simp) | with_reducible refine Bl.alloc ?_ _ | with_reducible refine Bl.drew ?_ | with_reducible refine Bl.drewN ?_ _ | with_reducible refine Bl.gw ?_ B5.out | with_reducible refine Bl.gw ?_ B6.out | with_reducible refine Bl.gw ?_ B7.out | with_reducible refine Bl.gw ?_ B8.out | with_reducible refine Bl.gw ?_ B9.out))) (by (repeat' (first | exact Bl.here (by decide) (by first | rfl | simp) | with_reducible refine Bl.alloc ?_ _ | with_reducible refine Bl.drew ?_ | with_reducible refine Bl.drewN ?_ _ | with_reducible refine Bl.gw ?_ B5.out | with_reducible refine Bl.gw ?_ B6.out | with_reducible refine Bl.gw ?_ B7.out | with_reducible refine Bl.gw ?_ B8.out | with_reducible refine Bl.gw ?_ B9.out)))).mono ?_); go_loud (rintro e w6 ⟨g6, rfl, i6, b6⟩); go_loud (obtain ⟨B', e', k1⟩ := HIC.out _ _ _ _ _ _ _ _ _ i6); go_loud ( have I6 := Lib.hid i6; have B6 := Lib.hid b6; have hg6 : Gw wc w6 := (by (repeat' (first | with_reducible exact Gw.refl _ | with_reducible exact B5.out | with_reducible exact B6.out | with_reducible exact B7.out | with_reducible exact B8.out | with_reducible exact B9.out | with_reducible refine Gw.alloc ?_ _ | with_reducible refine Gw.drew ?_ | with_reducible refine Gw.drewN ?_ _ | with_reducible refine Gw.trans ?_ B5.out | with_reducible refine Gw.trans ?_ B6.out | with_reducible refine Gw.trans ?_ B7.out | with_reducible refine Gw.trans ?_ B8.out | with_reducible refine Gw.trans ?_ B9.out))); obtain ⟨k2, k3⟩ := CE.out w6 hg6; have k4 := HNT.out w6 hg6; have HG6 := Lib.hid hg6; clear i6 b6 hg6)))
      go_end0
      exact FIN.out _ _ _ _ I6.out HG6.out
    · have hdec : decide (most ord d < m') = false := decide_eq_false hs
      rw [hdec] at CL
      have HFR := Lib.hid (show ∀ n, (wc.drewN n).frozen? ⟨T, 1, none⟩ = false from fun n => by simp [World.frozen?, hTc.row])
      have f1 := HFR.out
      have g0 := hTc.c0
      have g1 := hTc.c1
      rcases d with _ | d
      · obtain ⟨g, rfl, hl, hml⟩ := hn
        have FIN := Lib.hid (show ∀ n, ChangeIs T ord w Q (.returned (.tuple #[])) ((wc.drewN n).setCell ⟨T, 1, none⟩ (lp g)) from fun n => ⟨rfl, TreeAt.set (HT.out.gw ((Gw.refl _).drewN n)) (d := 0) (m := m') ⟨g, rfl, hl.drewN n, hml⟩ HR.out (by omega) (fun h => absurd h (by omega)) ho ho2, Xt.set (HG.out.trans ((Gw.refl _).drewN n)) 1 _⟩)
        have t1 := ta_li
        unfold lp at FIN CL ⊢
        clear hT hTc hs hdec hg hFr c1 hl hml
        go_wp2_with (first
          | (go_at_call 55; refine CL.out.mono ?_; rintro e w1 ⟨rfl, n, rfl⟩; clear CL))
        go_end0
        exact FIN.out _
      · obtain ⟨g, ks, kids, rfl, rfl, hC, hFit⟩ := hn
        have t2 := ta_ii
        have hnum := hC.num
        by_cases h1 : kids.length = 1
        · obtain ⟨x, hx⟩ : ∃ x, kids = [x] := List.length_eq_one_iff.1 h1
          subst hx
          obtain ⟨ad, e, k1, k2, -⟩ := hC.cell_kid (i := 0) (x := x) rfl
          have k3 := k2
          rw [addr_add0] at k2
          have hq : Q = x.ps := by rw [hC.all]; simp [kidsP]
          have hxf := hFit x (by simp)
          have hxn := hC.is x (by simp)
          have FIN := Lib.hid (show ∀ n, ChangeIs T ord w Q (.returned (.tuple #[])) ((wc.drewN n).setCell ⟨T, 1, none⟩ x.v) from fun n => ⟨rfl, TreeAt.set (HT.out.gw ((Gw.refl _).drewN n)) (d := d) (m := x.m) (by rw [hq]; exact hxn.drewN n) HR.out hxf.2 (fun hd => by have := hxf.1; unfold most at this; rw [if_neg (by omega)] at this; omega) ho ho2, Xt.set (HG.out.trans ((Gw.refl _).drewN n)) 1 _⟩)
          obtain ⟨tt, gx, hv⟩ := hxn.form
          rw [hv] at k2 k3 FIN
          unfold ip at CL ⊢
          simp only [List.length_cons, List.length_nil, Nat.zero_add] at k1
          clear hT hTc hs hdec hg hFr c1 hC hFit hq hxf hxn hnum h1 hv
          go_wp2_with (first
            | (go_at_call 55; refine CL.out.mono ?_; rintro e w1 ⟨rfl, n, rfl⟩; clear CL))
          go_end0
          exact FIN.out _
        · obtain ⟨A, c, B, e, -, k1, -⟩ := hC.cells
          have FIN := Lib.hid (show ∀ n, ChangeIs T ord w Q (.returned (.tuple #[])) ((wc.drewN n).setCell ⟨T, 1, none⟩ (ip g)) from fun n => ⟨rfl, TreeAt.set (HT.out.gw ((Gw.refl _).drewN n)) (d := d + 1) (m := kids.length) ⟨g, ks, kids, rfl, rfl, hC.drewN n, hFit⟩ HR.out (by omega) (fun _ => by omega) ho ho2, Xt.set (HG.out.trans ((Gw.refl _).drewN n)) 1 _⟩)
          have h2 : ¬ (kids.length : Int) = 1 := by omega
          have h3 : ((kids.length : Int) == 1) = false := by simpa using h2
          have h4 : decide ((kids.length : Int) = 1) = false := by simpa using h2
          unfold ip at FIN CL ⊢
          clear hT hTc hs hdec hg hFr c1 hC hFit hnum
          go_wp2_with (first
            | (go_at_call 55; refine CL.out.mono ?_; rintro e w1 ⟨rfl, n, rfl⟩; clear CL))
          go_end0
          exact FIN.out _
end Go.Proofs.Ytlhpoliiojekeaa
