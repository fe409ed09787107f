import Derived.Test.YtnpeankmmojebaaDoorSeV
import Derived.Test.YtnpeankmmojebaaDoorJBK
/- Layer 11: the reference's Graph. -/
set_option linter.unusedVariables false
namespace Go.Proofs.YtnpeankmmojebaaDoor
set_option maxRecDepth 100000
set_option maxRecDepth 100000
open Go.RowKit

section
variable {w : World} {A B : Option Addr} {n c m d : Nat} {cs : List Int} {ac : List Ac}
set_option maxHeartbeats 32000000 in
theorem wrGraph (h : Hist w A n c B m d cs ac) (hn : n ≤ 4096) (hm : m ≤ 4096) :
    Calls Tryd.prog 29 #[histV A n c B m d] w fun e w' => ∃ v, e = .returned v ∧ DL w' v (graphP cs ac) ∧ Below w.heap.size w w' := by
  obtain ⟨W0, hB⟩ := h.box
  have HB := Lib.hid hB
  have HW := Lib.hid hB.eq
  have x0 := hB.x0
  have x1 := hB.x1
  have HM := Lib.hid hm
  have CN := Lib.hid (fun W (hW : Below W0.heap.size W0 W) it v => wrNext (hB.h.gw hW) hn hm it v)
  have HGR := Lib.hid (show graphP cs ac = ac.foldl (stepG cs ac) [] from rfl)
  have HLN := Lib.hid (fun j => graph_len cs ac (ac.take j) [])
  clear h hB hn hm
  unfold histV
  unfold histV at CN
  go_enter Tryd.func29, Tryd.ntmps29
  go_upto_region 1 with fail
  rw [HW.out]
  go_upto_region 3 with fail
  go_loopw [3, 4] (fun lv i wr => ∃ j : Nat, i = .int .i64 (j : Nat) ∧ j ≤ m ∧ DL wr lv ((ac.take j).foldl (stepG cs ac) []) ∧ Below W0.heap.size W0 wr) (fun _ i _ => m - (intOf i).toNat)
  case atStart => exact ⟨0, rfl, Nat.zero_le _, DL.nil _, Below.refl _ _⟩
  case round =>
    rename World => wr
    obtain ⟨j, rfl, hj, hdl, hbl⟩ := hrel
    have hdl0 := hdl
    obtain ⟨lA, lc, rfl, -⟩ := hdl0
    have y0 := keep_below x0 hbl
    have y1 := keep_below x1 hbl
    by_cases hlt : j < m
    · obtain ⟨a, hx⟩ : ∃ a, ac[j]? = some a := ⟨_, List.getElem?_eq_getElem (by rw [HB.out.h.al]; exact hlt)⟩
      obtain ⟨g, o, rfl, c0, c1, c2, c3⟩ := (HB.out.h.gw hbl).act hx
      obtain ⟨X, hX⟩ := a.box wr
      have HX := Lib.hid hX.eq
      have d0 := hX.d0
      have d1 := hX.d1
      have d2 := hX.d2
      have d3 := hX.d3
      have z0 := keep_below y0 hX.below
      have z1 := keep_below y1 hX.below
      have i1 : (j : Int) < (m : Int) := by omega
      have l1 : (j : Int) ≤ 4096 := by have := HM.out; omega
      have l2 : (0 : Int) ≤ (j : Int) := by omega
      have HT := Lib.hid (graph_next (cs := cs) (a := a) hx)
      have hln := HLN.out j
      have hgl : ((ac.take j).foldl (stepG cs ac) []).length ≤ 8192 := by
        have := List.length_take_le j ac
        simp only [List.length_nil] at hln
        omega
      have BX := Lib.hid (below_next hbl hX.below)
      have DX := Lib.hid (hdl.gw hX.below)
      have HLT := Lib.hid hlt
      have HGL := Lib.hid hgl
      obtain ⟨G, hG⟩ : ∃ G, (ac.take j).foldl (stepG cs ac) [] = G := ⟨_, rfl⟩
      rw [hG] at DX HT HGL ⊢
      have hST : stepG cs ac G a = (depsA cs ac a).foldl putD G := rfl
      obtain ⟨at_, aw, ai, av⟩ := a
      dsimp only at d0 d1 d2 d3 HX c0 c1 c2 c3
      clear hx hX hj hlt hbl hdl hln hgl hG y0
      cases aw
      · by_cases hv : av = at_
        · subst hv
          have HS := Lib.hid (show stepG cs ac G ⟨av, false, ai, av⟩ = G by rw [hST]; simp [depsA])
          clear hST
          go_upto_region 6 with fail
          rw [HX.out]
          clear c0 c1 c2 c3 y1
          go_wp2
          go_roundw
          case rel => exact ⟨j + 1, by go_num, HLT.out, by rw [HT.out, HS.out]; exact DX.out, BX.out⟩
          case measure => have := HLT.out; simp [intOf]; omega
        · have hv' : (av == at_) = false := by simpa using hv
          have HS := Lib.hid (show stepG cs ac G ⟨at_, false, ai, av⟩ = putD (putD G ⟨av, at_, 1⟩) ⟨at_, nextP cs ac ai av, 3⟩ by rw [hST]; simp [depsA, hv])
          clear hST hv
          have CP := Lib.hid (wrPut DX.out (by have := HGL.out; omega) ⟨av, at_, 1⟩)
          obtain ⟨G1, hG1⟩ : ∃ G1, putD G ⟨av, at_, 1⟩ = G1 := ⟨_, rfl⟩
          have HG1 := Lib.hid (show G1.length ≤ 8193 by rw [← hG1]; have := putD_len G ⟨av, at_, 1⟩; have := HGL.out; omega)
          rw [hG1] at CP HS
          obtain ⟨nx, hnx⟩ : ∃ nx, nextP cs ac ai av = nx := ⟨_, rfl⟩
          rw [hnx] at HS
          have HNX := Lib.hid hnx
          unfold dpV at CP
          dsimp only at CP
          clear hG1 hnx
          go_upto_region 6 with fail
          rw [HX.out]
          clear c0 c1 c2 c3 y1
          go_upto_region 10 with (go_at_call 47; go_loud (refine CP.out.mono ?_; rintro e w2 ⟨v2, rfl, p2, b2⟩; have P2 := Lib.hid p2; have B2 := Lib.hid b2; have S0 : w2.cell? ⟨w.heap.size, 0, none⟩ = some (.slice A n c) ∧ w2.cell? ⟨w.heap.size, 1, none⟩ = some (.slice (some ⟨g, o, none⟩) m d) ∧ w2.cell? ⟨wr.heap.size, 0, none⟩ = some (.int .i64 at_) ∧ w2.cell? ⟨wr.heap.size, 2, none⟩ = some (.string ai) ∧ w2.cell? ⟨wr.heap.size, 3, none⟩ = some (.int .i64 av) := ⟨keep_below z0 b2, keep_below z1 b2, keep_below d0 b2, keep_below d2 b2, keep_below d3 b2⟩; clear p2 b2))
          clear z0 z1 d0 d1 d2 d3
          have S2 : ∀ W : World, Below w2.heap.size w2.drew W → W.cell? ⟨w.heap.size, 0, none⟩ = some (.slice A n c) ∧ W.cell? ⟨w.heap.size, 1, none⟩ = some (.slice (some ⟨g, o, none⟩) m d) ∧ W.cell? ⟨wr.heap.size, 0, none⟩ = some (.int .i64 at_) ∧ W.cell? ⟨wr.heap.size, 2, none⟩ = some (.string ai) ∧ W.cell? ⟨wr.heap.size, 3, none⟩ = some (.int .i64 av) := fun W hW => ⟨keep_below (w := w2.drew) S0.1 hW, keep_below (w := w2.drew) S0.2.1 hW, keep_below (w := w2.drew) S0.2.2.1 hW, keep_below (w := w2.drew) S0.2.2.2.1 hW, keep_below (w := w2.drew) S0.2.2.2.2 hW⟩
          have CX := Lib.hid (CN.out w2.drew ((BX.out.trans (B2.out.mono BX.out.size)).drew) ai av)
          rw [HNX.out] at CX
          go_region_held3 (fun W => W.cell? ⟨w.heap.size, 0, none⟩ = some (.slice A n c) ∧ W.cell? ⟨w.heap.size, 1, none⟩ = some (.slice (some ⟨g, o, none⟩) m d) ∧ W.cell? ⟨wr.heap.size, 0, none⟩ = some (.int .i64 at_) ∧ W.cell? ⟨wr.heap.size, 2, none⟩ = some (.string ai) ∧ W.cell? ⟨wr.heap.size, 3, none⟩ = some (.int .i64 av)) (first | exact S0 | exact S2 _ B3.out | exact S2 _ B4.out)
            (first
              | (go_at_call 48; go_loud (refine CX.out.mono ?_; rintro e w3 ⟨rfl, b3⟩; have B3 := Lib.hid (show Below w2.heap.size w2.drew w3 from b3); have CQ := Lib.hid (wrPut ((show DL w2.drew v2 G1 from P2.out.gw ((Below.refl _ _).drew)).gw b3) (by have := HG1.out; omega) ⟨at_, nx, 3⟩); unfold dpV at CQ; dsimp only at CQ; clear b3))
              | (go_at_call 47; go_loud (refine CQ.out.mono ?_; rintro e w4 ⟨v4, rfl, p4, b4⟩; have P4 := Lib.hid p4; have B4 := Lib.hid (show Below w2.heap.size w2.drew w4 from B3.out.trans (b4.mono B3.out.size)); clear p4 b4)))
          all_goals
            go_wp2
            go_roundw
            case rel => exact ⟨j + 1, by go_num, HLT.out, by rw [HT.out, HS.out]; exact P4.out, (BX.out.trans (B2.out.mono BX.out.size)).trans (((Below.refl _ _).drew).trans (B4.out.mono (by have := BX.out.size; have := B2.out.size; omega)))⟩
            case measure => have := HLT.out; simp [intOf]; omega
      · have HS := Lib.hid (show stepG cs ac G ⟨at_, true, ai, av⟩ = putD G ⟨at_, nextP cs ac ai at_, 2⟩ by rw [hST]; simp [depsA])
        clear hST
        obtain ⟨nx, hnx⟩ : ∃ nx, nextP cs ac ai at_ = nx := ⟨_, rfl⟩
        rw [hnx] at HS
        have S0 : X.cell? ⟨w.heap.size, 0, none⟩ = some (.slice A n c) ∧ X.cell? ⟨w.heap.size, 1, none⟩ = some (.slice (some ⟨g, o, none⟩) m d) ∧ X.cell? ⟨wr.heap.size, 0, none⟩ = some (.int .i64 at_) ∧ X.cell? ⟨wr.heap.size, 2, none⟩ = some (.string ai) ∧ X.cell? ⟨wr.heap.size, 3, none⟩ = some (.int .i64 av) := ⟨z0, z1, d0, d2, d3⟩
        have S2 : ∀ W : World, Below X.heap.size X.drew W → W.cell? ⟨w.heap.size, 0, none⟩ = some (.slice A n c) ∧ W.cell? ⟨w.heap.size, 1, none⟩ = some (.slice (some ⟨g, o, none⟩) m d) ∧ W.cell? ⟨wr.heap.size, 0, none⟩ = some (.int .i64 at_) ∧ W.cell? ⟨wr.heap.size, 2, none⟩ = some (.string ai) ∧ W.cell? ⟨wr.heap.size, 3, none⟩ = some (.int .i64 av) := fun W hW => ⟨keep_below (w := X.drew) S0.1 hW, keep_below (w := X.drew) S0.2.1 hW, keep_below (w := X.drew) S0.2.2.1 hW, keep_below (w := X.drew) S0.2.2.2.1 hW, keep_below (w := X.drew) S0.2.2.2.2 hW⟩
        have CX := Lib.hid (CN.out X.drew (BX.out.drew) ai at_)
        rw [hnx] at CX
        clear hnx
        go_upto_region 6 with fail
        rw [HX.out]
        clear c0 c1 c2 c3 y1
        go_upto_region 7 with fail
        go_region_held3 (fun W => W.cell? ⟨w.heap.size, 0, none⟩ = some (.slice A n c) ∧ W.cell? ⟨w.heap.size, 1, none⟩ = some (.slice (some ⟨g, o, none⟩) m d) ∧ W.cell? ⟨wr.heap.size, 0, none⟩ = some (.int .i64 at_) ∧ W.cell? ⟨wr.heap.size, 2, none⟩ = some (.string ai) ∧ W.cell? ⟨wr.heap.size, 3, none⟩ = some (.int .i64 av)) (first | exact S0 | exact S2 _ B3.out | exact S2 _ B4.out)
          (first
            | (go_at_call 48; go_loud (refine CX.out.mono ?_; rintro e w3 ⟨rfl, b3⟩; have B3 := Lib.hid (show Below X.heap.size X.drew w3 from b3); have CQ := Lib.hid (wrPut ((show DL X.drew (.slice lA G.length lc) G from DX.out.gw ((Below.refl _ _).drew)).gw b3) (by have := HGL.out; omega) ⟨at_, nx, 2⟩); unfold dpV at CQ; dsimp only at CQ; clear b3))
            | (go_at_call 47; go_loud (refine CQ.out.mono ?_; rintro e w4 ⟨v4, rfl, p4, b4⟩; have P4 := Lib.hid p4; have B4 := Lib.hid (show Below X.heap.size X.drew w4 from B3.out.trans (b4.mono B3.out.size)); clear p4 b4)))
        all_goals
          go_wp2
          go_roundw
          case rel => exact ⟨j + 1, by go_num, HLT.out, by rw [HT.out, HS.out]; exact P4.out, BX.out.trans (((Below.refl _ _).drew).trans (B4.out.mono BX.out.size))⟩
          case measure => have := HLT.out; simp [intOf]; omega
    · obtain rfl : j = m := by omega
      have i1 : ¬ (j : Int) < (j : Int) := by omega
      have HBL := Lib.hid hbl
      have eG : (ac.take j).foldl (stepG cs ac) [] = graphP cs ac := by rw [HGR.out, show ac.take j = ac by rw [← HB.out.h.al]; exact List.take_length]
      have HD := Lib.hid (Eq.mp (congrArg (fun G => DL wr (.slice lA ((ac.take j).foldl (stepG cs ac) []).length lc) G) eG) hdl)
      clear eG
      clear hj hlt hbl hdl
      go_wp2
      go_ret
      exact ⟨_, rfl, HD.out, below_next HB.out.below HBL.out⟩
end
end Go.Proofs.YtnpeankmmojebaaDoor

/- Layer 11: the reference's Pivots. -/
namespace Go.Proofs.YtnpeankmmojebaaDoor
set_option maxRecDepth 100000
set_option maxRecDepth 100000
open Go.RowKit

def toW (g : List Dp) (n : Int) : Bool := g.any fun d => decide (d.kd = 3) && decide (d.to = n)
def frW (g : List Dp) (n : Int) : Bool := g.any fun d => decide (d.kd = 3) && decide (d.fr = n)
def pvB (g : List Dp) (n : Int) : Bool := toW g n && frW g n
def pivP (cs : List Int) (g : List Dp) : List Int := (riseP cs).filter (pvB g)
theorem toW_next {g : List Dp} {j : Nat} {d : Dp} (h : g[j]? = some d) (n : Int) : toW (g.take (j + 1)) n = (toW (g.take j) n || (decide (d.kd = 3) && decide (d.to = n))) := by
  unfold toW; rw [List.take_add_one, h]; simp [List.any_append]
theorem frW_next {g : List Dp} {j : Nat} {d : Dp} (h : g[j]? = some d) (n : Int) : frW (g.take (j + 1)) n = (frW (g.take j) n || (decide (d.kd = 3) && decide (d.fr = n))) := by
  unfold frW; rw [List.take_add_one, h]; simp [List.any_append]
theorem filt_next {l : List Int} {p : Int → Bool} {j : Nat} {x : Int} (h : l[j]? = some x) : (l.take (j + 1)).filter p = if p x = true then (l.take j).filter p ++ [x] else (l.take j).filter p := by
  rw [List.take_add_one, h, Option.toList_some, List.filter_append]
  cases hp : p x <;> simp [hp]
section
variable {w : World} {A B : Option Addr} {n c m d : Nat} {cs : List Int} {ac : List Ac}
end
end Go.Proofs.YtnpeankmmojebaaDoor

/- Layer 11: the program's pivots, plainly. -/
namespace Go.Proofs.YtnpeankmmojebaaDoor
set_option maxRecDepth 100000

def cntT (g : List Dp) (n : Int) : Nat := g.countP fun d => decide (d.kd = 3) && decide (d.to = n)
theorem cntT_next {g : List Dp} {j : Nat} {d : Dp} (h : g[j]? = some d) (n : Int) : cntT (g.take (j + 1)) n = if d.kd = 3 ∧ d.to = n then cntT (g.take j) n + 1 else cntT (g.take j) n := by
  unfold cntT
  rw [List.take_add_one, h, Option.toList_some, List.countP_append]
  by_cases h1 : d.kd = 3 <;> by_cases h2 : d.to = n <;> simp [h1, h2]
theorem cntT_le (g : List Dp) (j : Nat) (n : Int) : cntT (g.take j) n ≤ j := by
  unfold cntT
  refine Nat.le_trans (List.countP_le_length) ?_
  rw [List.length_take]; omega
theorem cntT_pos (g : List Dp) (n : Int) : 0 < cntT g n ↔ toW g n = true := by
  unfold cntT toW
  rw [List.countP_pos_iff, List.any_eq_true]
def stepP (g0 : List Dp) (l : List Int) (d : Dp) : List Int := if d.kd = 3 ∧ toW g0 d.fr = true ∧ l.getLast? ≠ some d.fr then l ++ [d.fr] else l
theorem stepP_next {g0 g : List Dp} {j : Nat} {d : Dp} (h : g[j]? = some d) : (g.take (j + 1)).foldl (stepP g0) [] = stepP g0 ((g.take j).foldl (stepP g0) []) d := by
  rw [List.take_add_one, h, Option.toList_some, List.foldl_append]
  rfl
theorem stepP_inv {g0 g : List Dp} (hs : g.Pairwise (lessD · · = true)) : ∀ j, j ≤ g.length → ((g.take j).foldl (stepP g0) []).Pairwise (ltN · · = true) ∧ ∀ y, y ∈ (g.take j).foldl (stepP g0) [] ↔ ∃ d ∈ g.take j, d.kd = 3 ∧ toW g0 y = true ∧ d.fr = y
  | 0, _ => ⟨List.Pairwise.nil, by simp⟩
  | j + 1, hj => by
    obtain ⟨d, hd⟩ : ∃ d, g[j]? = some d := ⟨_, List.getElem?_eq_getElem (by omega)⟩
    obtain ⟨h1, h2⟩ := stepP_inv (g0 := g0) hs j (by omega)
    rw [stepP_next hd]
    generalize (g.take j).foldl (stepP g0) [] = L at h1 h2
    have hle : ∀ d' ∈ g.take j, d'.fr ≤ d.fr := fun d' hd' => by
      obtain ⟨i, hi⟩ := List.mem_iff_getElem?.1 hd'
      have hl := (List.getElem?_eq_some_iff.1 hi).1
      rw [List.length_take] at hl
      rw [List.getElem?_take_of_lt (by omega)] at hi
      have hi2 := (List.getElem?_eq_some_iff.1 hi).1
      have hj2 := (List.getElem?_eq_some_iff.1 hd).1
      have := List.pairwise_iff_getElem.1 hs i j hi2 hj2 (by omega)
      rw [List.getElem?_eq_getElem hi2] at hi
      rw [List.getElem?_eq_getElem hj2] at hd
      rw [Option.some.inj hi, Option.some.inj hd] at this
      unfold lessD at this
      split at this
      · omega
      · have := of_decide_eq_true this; omega
    have hmem : ∀ y, (∃ d' ∈ g.take (j + 1), d'.kd = 3 ∧ toW g0 y = true ∧ d'.fr = y) ↔ y ∈ L ∨ (d.kd = 3 ∧ toW g0 y = true ∧ d.fr = y) := fun y => by
      rw [h2, List.take_add_one, hd, Option.toList_some]
      constructor
      · rintro ⟨d', hm, hr⟩
        rcases List.mem_append.1 hm with k | k
        · exact .inl ⟨d', k, hr⟩
        · rw [List.mem_singleton.1 k] at hr; exact .inr hr
      · rintro (⟨d', hm, hr⟩ | hr)
        · exact ⟨d', List.mem_append.2 (.inl hm), hr⟩
        · exact ⟨d, List.mem_append.2 (.inr (List.mem_singleton.2 rfl)), hr⟩
    have hbelow : ∀ y ∈ L, y ≤ d.fr := fun y hy => by
      obtain ⟨d', hm, -, -, e⟩ := (h2 y).1 hy
      rw [← e]; exact hle d' hm
    unfold stepP
    by_cases hc : d.kd = 3 ∧ toW g0 d.fr = true ∧ L.getLast? ≠ some d.fr
    · rw [if_pos hc]
      refine ⟨List.pairwise_append.2 ⟨h1, List.pairwise_singleton _ _, fun a ha b hb => ?_⟩, fun y => ?_⟩
      · rw [List.mem_singleton.1 hb]
        have h3 := hbelow a ha
        have hne : a ≠ d.fr := fun e => by
          obtain ⟨z, hz⟩ : ∃ z, L.getLast? = some z := by
            cases hl : L.getLast? with
            | none => rw [List.getLast?_eq_none_iff] at hl; rw [hl] at ha; cases ha
            | some z => exact ⟨z, rfl⟩
          obtain ⟨M, hM⟩ := List.getLast?_eq_some_iff.1 hz
          have hzL : z ∈ L := by rw [hM]; simp
          have hzle := hbelow z hzL
          have haz : a ≤ z := by
            rw [hM] at ha h1
            rcases List.mem_append.1 ha with k | k
            · have := (List.pairwise_append.1 h1).2.2 a k z (List.mem_singleton.2 rfl)
              have : a < z := by simpa [ltN] using this
              omega
            · rw [List.mem_singleton.1 k]; exact Int.le_refl _
          exact hc.2.2 (by rw [hz]; congr 1; omega)
        have : a < d.fr := by omega
        simpa [ltN] using this
      · rw [hmem, List.mem_append, List.mem_singleton]
        constructor
        · rintro (k | k)
          · exact .inl k
          · exact .inr ⟨hc.1, by rw [k]; exact hc.2.1, k.symm⟩
        · rintro (k | k)
          · exact .inl k
          · exact .inr k.2.2.symm
    · rw [if_neg hc]
      refine ⟨h1, fun y => ?_⟩
      rw [hmem]
      constructor
      · exact .inl
      · rintro (k | ⟨k1, k2, k3⟩)
        · exact k
        · by_cases hl : L.getLast? = some d.fr
          · obtain ⟨M, hM⟩ := List.getLast?_eq_some_iff.1 hl
            rw [hM, ← k3]; simp
          · exact absurd ⟨k1, by rw [k3]; exact k2, hl⟩ hc
theorem Right.pivots {cs : List Int} {ac : List Ac} (h : Right cs ac) : (graphP cs ac).foldl (stepP (graphP cs ac)) [] = pivP cs (graphP cs ac) := by
  obtain ⟨h1, h2⟩ := stepP_inv (g0 := graphP cs ac) (graph_is cs ac).1 (graphP cs ac).length (Nat.le_refl _)
  rw [List.take_length] at h1 h2
  have hp : (pivP cs (graphP cs ac)).Pairwise (ltN · · = true) := (rise_is cs).1.filter _
  have e1 := rise_unique (l := pivP cs (graphP cs ac)) h1 fun y => by
    rw [h2]
    unfold pivP
    rw [List.mem_filter, (rise_is cs).2]
    unfold pvB frW
    rw [Bool.and_eq_true, List.any_eq_true]
    constructor
    · rintro ⟨d, hd, k1, k2, k3⟩
      exact ⟨k3 ▸ (h.graph_mem hd).1, k2, d, hd, by simp [k1, k3]⟩
    · rintro ⟨-, k2, d, hd, k⟩
      simp at k
      exact ⟨d, hd, k.1, k2, k.2⟩
  have e2 := rise_unique (l := pivP cs (graphP cs ac)) hp fun y => Iff.rfl
  rw [e1, ← e2]
end Go.Proofs.YtnpeankmmojebaaDoor
