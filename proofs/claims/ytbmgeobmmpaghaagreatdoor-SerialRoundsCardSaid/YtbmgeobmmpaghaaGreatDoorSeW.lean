/- Layer 11: the reference's Graph. -/
import Derived.Test.YtbmgeobmmpaghaaGreatDoorSeV
set_option linter.unusedVariables false
namespace Go.Proofs.YtbmgeobmmpaghaaGreatDoor
set_option maxRecDepth 100000
set_option maxRecDepth 100000
open Go.RowKit

section
variable {w : World} {A B : Option Addr} {n c m d : Nat} {cs : List Int} {ac : List Ac}
set_option maxHeartbeats 32000000 in
theorem wrGraph (h : Hist w A n c B m d cs ac) (hn : n ≤ 4096) (hm : m ≤ 4096) :
    Calls Tryz.prog 13 #[histV A n c B m d] w fun e w' => ∃ v, e = .returned v ∧ DL w' v (graphP cs ac) ∧ Below w.heap.size w w' := by
  obtain ⟨W0, hB⟩ := h.box
  have HB := Lib.hid hB
  have HW := Lib.hid hB.eq
  have x0 := hB.x0
  have x1 := hB.x1
  have HM := Lib.hid hm
  have CN := Lib.hid (fun W (hW : Below W0.heap.size W0 W) it v => wrNext (hB.h.gw hW) hn hm it v)
  have HGR := Lib.hid (show graphP cs ac = ac.foldl (stepG cs ac) [] from rfl)
  have HLN := Lib.hid (fun j => graph_len cs ac (ac.take j) [])
  clear h hB hn hm
  unfold histV
  unfold histV at CN
  go_enter Tryz.func13, Tryz.ntmps13
  go_upto_region 1 with fail
  rw [HW.out]
  go_upto_region 3 with fail
  go_loopw [3, 4] (fun lv i wr => ∃ j : Nat, i = .int .i64 (j : Nat) ∧ j ≤ m ∧ DL wr lv ((ac.take j).foldl (stepG cs ac) []) ∧ Below W0.heap.size W0 wr) (fun _ i _ => m - (intOf i).toNat)
  case atStart => exact ⟨0, rfl, Nat.zero_le _, DL.nil _, Below.refl _ _⟩
  case round =>
    rename World => wr
    obtain ⟨j, rfl, hj, hdl, hbl⟩ := hrel
    have hdl0 := hdl
    obtain ⟨lA, lc, rfl, -⟩ := hdl0
    have y0 := keep_below x0 hbl
    have y1 := keep_below x1 hbl
    by_cases hlt : j < m
    · obtain ⟨a, hx⟩ : ∃ a, ac[j]? = some a := ⟨_, List.getElem?_eq_getElem (by rw [HB.out.h.al]; exact hlt)⟩
      obtain ⟨g, o, rfl, c0, c1, c2, c3⟩ := (HB.out.h.gw hbl).act hx
      obtain ⟨X, hX⟩ := a.box wr
      have HX := Lib.hid hX.eq
      have d0 := hX.d0
      have d1 := hX.d1
      have d2 := hX.d2
      have d3 := hX.d3
      have z0 := keep_below y0 hX.below
      have z1 := keep_below y1 hX.below
      have i1 : (j : Int) < (m : Int) := by omega
      have l1 : (j : Int) ≤ 4096 := by have := HM.out; omega
      have l2 : (0 : Int) ≤ (j : Int) := by omega
      have HT := Lib.hid (graph_next (cs := cs) (a := a) hx)
      have hln := HLN.out j
      have hgl : ((ac.take j).foldl (stepG cs ac) []).length ≤ 8192 := by
        have := List.length_take_le j ac
        simp only [List.length_nil] at hln
        omega
      have BX := Lib.hid (below_next hbl hX.below)
      have DX := Lib.hid (hdl.gw hX.below)
      have HLT := Lib.hid hlt
      have HGL := Lib.hid hgl
      obtain ⟨G, hG⟩ : ∃ G, (ac.take j).foldl (stepG cs ac) [] = G := ⟨_, rfl⟩
      rw [hG] at DX HT HGL ⊢
      have hST : stepG cs ac G a = (depsA cs ac a).foldl putD G := rfl
      obtain ⟨at_, aw, ai, av⟩ := a
      dsimp only at d0 d1 d2 d3 HX c0 c1 c2 c3
      clear hx hX hj hlt hbl hdl hln hgl hG y0
      cases aw
      · by_cases hv : av = at_
        · subst hv
          have HS := Lib.hid (show stepG cs ac G ⟨av, false, ai, av⟩ = G by rw [hST]; simp [depsA])
          clear hST
          go_upto_region 6 with fail
          rw [HX.out]
          clear c0 c1 c2 c3 y1
          go_wp2
          go_roundw
          case rel => exact ⟨j + 1, by go_num, HLT.out, by rw [HT.out, HS.out]; exact DX.out, BX.out⟩
          case measure => have := HLT.out; simp [intOf]; omega
        · have hv' : (av == at_) = false := by simpa using hv
          have HS := Lib.hid (show stepG cs ac G ⟨at_, false, ai, av⟩ = putD (putD G ⟨av, at_, 1⟩) ⟨at_, nextP cs ac ai av, 3⟩ by rw [hST]; simp [depsA, hv])
          clear hST hv
          have CP := Lib.hid (wrPut DX.out (by have := HGL.out; omega) ⟨av, at_, 1⟩)
          obtain ⟨G1, hG1⟩ : ∃ G1, putD G ⟨av, at_, 1⟩ = G1 := ⟨_, rfl⟩
          have HG1 := Lib.hid (show G1.length ≤ 8193 by rw [← hG1]; have := putD_len G ⟨av, at_, 1⟩; have := HGL.out; omega)
          rw [hG1] at CP HS
          obtain ⟨nx, hnx⟩ : ∃ nx, nextP cs ac ai av = nx := ⟨_, rfl⟩
          rw [hnx] at HS
          have HNX := Lib.hid hnx
          unfold dpV at CP
          dsimp only at CP
          clear hG1 hnx
          go_upto_region 6 with fail
          rw [HX.out]
          clear c0 c1 c2 c3 y1
          go_upto_region 10 with (go_at_call 33; go_loud (refine CP.out.mono ?_; rintro e w2 ⟨v2, rfl, p2, b2⟩; have P2 := Lib.hid p2; have B2 := Lib.hid b2; have S0 : w2.cell? ⟨w.heap.size, 0, none⟩ = some (.slice A n c) ∧ w2.cell? ⟨w.heap.size, 1, none⟩ = some (.slice (some ⟨g, o, none⟩) m d) ∧ w2.cell? ⟨wr.heap.size, 0, none⟩ = some (.int .i64 at_) ∧ w2.cell? ⟨wr.heap.size, 2, none⟩ = some (.string ai) ∧ w2.cell? ⟨wr.heap.size, 3, none⟩ = some (.int .i64 av) := ⟨keep_below z0 b2, keep_below z1 b2, keep_below d0 b2, keep_below d2 b2, keep_below d3 b2⟩; clear p2 b2))
          clear z0 z1 d0 d1 d2 d3
          have S2 : ∀ W : World, Below w2.heap.size w2.drew W → W.cell? ⟨w.heap.size, 0, none⟩ = some (.slice A n c) ∧ W.cell? ⟨w.heap.size, 1, none⟩ = some (.slice (some ⟨g, o, none⟩) m d) ∧ W.cell? ⟨wr.heap.size, 0, none⟩ = some (.int .i64 at_) ∧ W.cell? ⟨wr.heap.size, 2, none⟩ = some (.string ai) ∧ W.cell? ⟨wr.heap.size, 3, none⟩ = some (.int .i64 av) := fun W hW => ⟨keep_below (w := w2.drew) S0.1 hW, keep_below (w := w2.drew) S0.2.1 hW, keep_below (w := w2.drew) S0.2.2.1 hW, keep_below (w := w2.drew) S0.2.2.2.1 hW, keep_below (w := w2.drew) S0.2.2.2.2 hW⟩
          have CX := Lib.hid (CN.out w2.drew ((BX.out.trans (B2.out.mono BX.out.size)).drew) ai av)
          rw [HNX.out] at CX
          go_region_held3 (fun W => W.cell? ⟨w.heap.size, 0, none⟩ = some (.slice A n c) ∧ W.cell? ⟨w.heap.size, 1, none⟩ = some (.slice (some ⟨g, o, none⟩) m d) ∧ W.cell? ⟨wr.heap.size, 0, none⟩ = some (.int .i64 at_) ∧ W.cell? ⟨wr.heap.size, 2, none⟩ = some (.string ai) ∧ W.cell? ⟨wr.heap.size, 3, none⟩ = some (.int .i64 av)) (first | exact S0 | exact S2 _ B3.out | exact S2 _ B4.out)
            (first
              | (go_at_call 34; go_loud (refine CX.out.mono ?_; rintro e w3 ⟨rfl, b3⟩; have B3 := Lib.hid (show Below w2.heap.size w2.drew w3 from b3); have CQ := Lib.hid (wrPut ((show DL w2.drew v2 G1 from P2.out.gw ((Below.refl _ _).drew)).gw b3) (by have := HG1.out; omega) ⟨at_, nx, 3⟩); unfold dpV at CQ; dsimp only at CQ; clear b3))
              | (go_at_call 33; go_loud (refine CQ.out.mono ?_; rintro e w4 ⟨v4, rfl, p4, b4⟩; have P4 := Lib.hid p4; have B4 := Lib.hid (show Below w2.heap.size w2.drew w4 from B3.out.trans (b4.mono B3.out.size)); clear p4 b4)))
          all_goals
            go_wp2
            go_roundw
            case rel => exact ⟨j + 1, by go_num, HLT.out, by rw [HT.out, HS.out]; exact P4.out, (BX.out.trans (B2.out.mono BX.out.size)).trans (((Below.refl _ _).drew).trans (B4.out.mono (by have := BX.out.size; have := B2.out.size; omega)))⟩
            case measure => have := HLT.out; simp [intOf]; omega
      · have HS := Lib.hid (show stepG cs ac G ⟨at_, true, ai, av⟩ = putD G ⟨at_, nextP cs ac ai at_, 2⟩ by rw [hST]; simp [depsA])
        clear hST
        obtain ⟨nx, hnx⟩ : ∃ nx, nextP cs ac ai at_ = nx := ⟨_, rfl⟩
        rw [hnx] at HS
        have S0 : X.cell? ⟨w.heap.size, 0, none⟩ = some (.slice A n c) ∧ X.cell? ⟨w.heap.size, 1, none⟩ = some (.slice (some ⟨g, o, none⟩) m d) ∧ X.cell? ⟨wr.heap.size, 0, none⟩ = some (.int .i64 at_) ∧ X.cell? ⟨wr.heap.size, 2, none⟩ = some (.string ai) ∧ X.cell? ⟨wr.heap.size, 3, none⟩ = some (.int .i64 av) := ⟨z0, z1, d0, d2, d3⟩
        have S2 : ∀ W : World, Below X.heap.size X.drew W → W.cell? ⟨w.heap.size, 0, none⟩ = some (.slice A n c) ∧ W.cell? ⟨w.heap.size, 1, none⟩ = some (.slice (some ⟨g, o, none⟩) m d) ∧ W.cell? ⟨wr.heap.size, 0, none⟩ = some (.int .i64 at_) ∧ W.cell? ⟨wr.heap.size, 2, none⟩ = some (.string ai) ∧ W.cell? ⟨wr.heap.size, 3, none⟩ = some (.int .i64 av) := fun W hW => ⟨keep_below (w := X.drew) S0.1 hW, keep_below (w := X.drew) S0.2.1 hW, keep_below (w := X.drew) S0.2.2.1 hW, keep_below (w := X.drew) S0.2.2.2.1 hW, keep_below (w := X.drew) S0.2.2.2.2 hW⟩
        have CX := Lib.hid (CN.out X.drew (BX.out.drew) ai at_)
        rw [hnx] at CX
        clear hnx
        go_upto_region 6 with fail
        rw [HX.out]
        clear c0 c1 c2 c3 y1
        go_upto_region 7 with fail
        go_region_held3 (fun W => W.cell? ⟨w.heap.size, 0, none⟩ = some (.slice A n c) ∧ W.cell? ⟨w.heap.size, 1, none⟩ = some (.slice (some ⟨g, o, none⟩) m d) ∧ W.cell? ⟨wr.heap.size, 0, none⟩ = some (.int .i64 at_) ∧ W.cell? ⟨wr.heap.size, 2, none⟩ = some (.string ai) ∧ W.cell? ⟨wr.heap.size, 3, none⟩ = some (.int .i64 av)) (first | exact S0 | exact S2 _ B3.out | exact S2 _ B4.out)
          (first
            | (go_at_call 34; go_loud (refine CX.out.mono ?_; rintro e w3 ⟨rfl, b3⟩; have B3 := Lib.hid (show Below X.heap.size X.drew w3 from b3); have CQ := Lib.hid (wrPut ((show DL X.drew (.slice lA G.length lc) G from DX.out.gw ((Below.refl _ _).drew)).gw b3) (by have := HGL.out; omega) ⟨at_, nx, 2⟩); unfold dpV at CQ; dsimp only at CQ; clear b3))
            | (go_at_call 33; go_loud (refine CQ.out.mono ?_; rintro e w4 ⟨v4, rfl, p4, b4⟩; have P4 := Lib.hid p4; have B4 := Lib.hid (show Below X.heap.size X.drew w4 from B3.out.trans (b4.mono B3.out.size)); clear p4 b4)))
        all_goals
          go_wp2
          go_roundw
          case rel => exact ⟨j + 1, by go_num, HLT.out, by rw [HT.out, HS.out]; exact P4.out, BX.out.trans (((Below.refl _ _).drew).trans (B4.out.mono BX.out.size))⟩
          case measure => have := HLT.out; simp [intOf]; omega
    · obtain rfl : j = m := by omega
      have i1 : ¬ (j : Int) < (j : Int) := by omega
      have HBL := Lib.hid hbl
      have eG : (ac.take j).foldl (stepG cs ac) [] = graphP cs ac := by rw [HGR.out, show ac.take j = ac by rw [← HB.out.h.al]; exact List.take_length]
      have HD := Lib.hid (Eq.mp (congrArg (fun G => DL wr (.slice lA ((ac.take j).foldl (stepG cs ac) []).length lc) G) eG) hdl)
      clear eG
      clear hj hlt hbl hdl
      go_wp2
      go_ret
      exact ⟨_, rfl, HD.out, below_next HB.out.below HBL.out⟩
end
end Go.Proofs.YtbmgeobmmpaghaaGreatDoor
