import Derived.Test.YtnpeankmmojebaaDoorJBN
import Derived.Test.YtnpeankmmojebaaDoorJBM
import Derived.Test.YtnpeankmmojebaaDoorJBI
import Derived.Test.YtnpeankmmojebaaDoorJAA
import Derived.Lib.QuietBelow
import Derived.Deep.MidRow
/- Layer 11: the law's leads and last. -/
set_option linter.unusedVariables false
namespace Go.Proofs.YtnpeankmmojebaaDoor
set_option maxRecDepth 100000
open Go.RowKit

section
variable {w : World} {gA : Option Addr} {gc : Nat} {GR : List Dp}
set_option maxHeartbeats 16000000 in
theorem wlLeads {q : Nat} (hg : SB w gA (3 * GR.length) (cellsE dpC GR)) (hq : GR.length = q) (hl : q ≤ 8192) (a b : Int) :
    Calls Tryd.prog 10 #[.slice gA q gc, .int .i64 a, .int .i64 b] w fun e w' => e = .returned (.bool (leadB GR a b)) ∧ Below w.heap.size w w' := by
  have HG := Lib.hid hg
  have HQ := Lib.hid hq
  have HL := Lib.hid hl
  obtain ⟨r, hr⟩ : ∃ r, leadB GR a b = r := ⟨_, rfl⟩
  have HR := Lib.hid hr
  rw [hr]
  clear hg hq hl hr
  go_enter Tryd.func10, Tryd.ntmps10
  go_upto_region 2 with fail
  go_loopw [11] (fun i wr => ∃ j : Nat, i = .int .i64 (j : Nat) ∧ j ≤ q ∧ leadB (GR.take j) a b = false ∧ Below w.heap.size w wr) (fun i _ => q - (intOf i).toNat)
  case atStart => exact ⟨0, rfl, Nat.zero_le _, by simp [leadB], Below.refl _ _⟩
  case round =>
    rename World => wr
    obtain ⟨j, rfl, hj, ha, hb⟩ := hrel
    by_cases hlt : j < q
    · obtain ⟨y, hy⟩ : ∃ y, GR[j]? = some y := ⟨_, List.getElem?_eq_getElem (by rw [HQ.out]; exact hlt)⟩
      obtain ⟨g, o, rfl, c0, c1, c2⟩ := DL.at_ (HG.out.gw hb) hy
      have i1 : (j : Int) < (q : Int) := by omega
      have l1 : (j : Int) ≤ 8192 := by have := HL.out; omega
      have HN := Lib.hid (lead_next hy a b)
      have HF := Lib.hid (fun h1 h2 => HR.out.symm.trans (lead_found (a := a) (b := b) hy h1 h2))
      obtain ⟨X, hX⟩ : ∃ X, wr.alloc (.cells #[.int .i64 y.fr, .int .i64 y.to, .int .i64 y.kd] 53) = X := ⟨_, rfl⟩
      have bX : Below wr.heap.size wr X := hX ▸ alloc_below11 wr _
      have qX : X.heap[wr.heap.size]? = some (.cells #[.int .i64 y.fr, .int .i64 y.to, .int .i64 y.kd] 53 (0, 0)) := hX ▸ heap_alloc_new wr _
      have d0 : X.cell? ⟨wr.heap.size, 0, none⟩ = some (.int .i64 y.fr) := cell_of_row _ _ 0 _ _ _ qX
      have d1 : X.cell? ⟨wr.heap.size, 1, none⟩ = some (.int .i64 y.to) := cell_of_row _ _ 1 _ _ _ qX
      have HX := Lib.hid hX
      have HBX := Lib.hid (hb.trans (bX.mono hb.size))
      have HA := Lib.hid ha
      have HLT := Lib.hid hlt
      obtain ⟨yf, yt, yk⟩ := y
      dsimp only at *
      clear hy ha hj hlt hX bX qX hb
      go_upto_region 4 with fail
      rw [HX.out]
      clear c0 c1 c2
      by_cases h1 : yf = a
      · have e1 : (yf == a) = true := by simpa using h1
        by_cases h2 : yt = b
        · have e2 : (yt == b) = true := by simpa using h2
          have HT := Lib.hid (HF.out h1 h2)
          clear h1 h2
          go_wp2
          go_ret
          exact ⟨by rw [HT.out]; rfl, HBX.out⟩
        · have e2 : (yt == b) = false := by simpa using h2
          have HN2 := Lib.hid (show leadB (GR.take (j + 1)) a b = false by rw [HN.out, HA.out]; simp [h2])
          clear h1 h2
          go_wp2
          go_roundw
          case rel => exact ⟨j + 1, by go_num, HLT.out, HN2.out, HBX.out⟩
          case measure => have := HLT.out; simp [intOf]; omega
      · have e1 : (yf == a) = false := by simpa using h1
        have HN2 := Lib.hid (show leadB (GR.take (j + 1)) a b = false by rw [HN.out, HA.out]; simp [h1])
        clear h1
        go_wp2
        go_roundw
        case rel => exact ⟨j + 1, by go_num, HLT.out, HN2.out, HBX.out⟩
        case measure => have := HLT.out; simp [intOf]; omega
    · obtain rfl : j = q := by omega
      have i1 : ¬ (j : Int) < (j : Int) := by omega
      have HT := Lib.hid (show r = false by rw [← HR.out, ← ha, ← HQ.out, List.take_length])
      have HB := Lib.hid hb
      clear ha hj hlt hb
      go_wp2
      go_ret
      exact ⟨by rw [HT.out]; rfl, HB.out⟩
end
section
variable {w : World} {A B oA : Option Addr} {n c m d on oc : Nat} {cs : List Int} {ac : List Ac} {l : List Int}
set_option maxHeartbeats 16000000 in
theorem wlLast (h : Hist w A n c B m d cs ac) (hm : m ≤ 4096) (hs : SB w oA on (numC l)) (hl : l.length = on) (hon : on ≤ 4096) (t : Int) (it : ByteArray) :
    Calls Tryd.prog 12 #[histV A n c B m d, .slice oA on oc, .int .i64 t, .string it] w fun e w' => e = .returned (.int .i64 (lastP ac t it l 0)) ∧ Below w.heap.size w w' := by
  obtain ⟨W0, hB⟩ := h.box
  have HB := Lib.hid hB
  have x1 := Lib.hid hB.x1
  have HW := Lib.hid hB.eq
  have HN := Lib.hid hm
  have HS := Lib.hid (hs.gw hB.below)
  have HL := Lib.hid hl
  have HON := Lib.hid hon
  obtain ⟨r, hr⟩ : ∃ r, lastP ac t it l 0 = r := ⟨_, rfl⟩
  have HR := Lib.hid hr
  rw [hr]
  clear h hB hm hs hl hon hr
  unfold histV
  go_enter Tryd.func12, Tryd.ntmps12
  go_upto_region 1 with fail
  rw [HW.out]
  go_upto_region 3 with fail
  go_loopw [9, 16] (fun nw i wr => ∃ (j : Nat) (v : Int), i = .int .i64 (j : Nat) ∧ nw = .int .i64 v ∧ j ≤ on ∧ lastP ac t it (l.drop j) v = r ∧ Below W0.heap.size W0 wr) (fun _ i _ => on - (intOf i).toNat)
  case atStart => exact ⟨0, 0, rfl, rfl, Nat.zero_le _, HR.out, Below.refl _ _⟩
  case round =>
    rename World => wr
    obtain ⟨j, v, rfl, rfl, hj, hlast, hb⟩ := hrel
    by_cases hlt : j < on
    · obtain ⟨x, hx⟩ : ∃ x, l[j]? = some x := ⟨_, List.getElem?_eq_getElem (by rw [HL.out]; exact hlt)⟩
      have hdrop : l.drop j = x :: l.drop (j + 1) := by rw [List.drop_eq_getElem_cons (by rw [HL.out]; exact hlt), (List.getElem?_eq_some_iff.1 hx).2]
      rw [hdrop, lastP] at hlast
      obtain ⟨g, o, rfl, u0⟩ := (HS.out.gw hb).num hx
      have y1 := keep_below x1.out hb
      have i1 : (j : Int) < (on : Int) := by omega
      have l1 : (j : Int) ≤ 4096 := by have := HON.out; omega
      have HLT := Lib.hid hlt
      have HBL := Lib.hid hb
      by_cases hxt : x = t
      · rw [if_pos hxt] at hlast
        have e1 : (x == t) = true := by simpa using hxt
        subst hlast
        clear hj hlt hx hdrop hb hxt
        go_wp2
        go_ret
        exact ⟨rfl, HB.out.below.trans (HBL.out.mono HB.out.below.size)⟩
      · rw [if_neg hxt] at hlast
        have e1 : (x == t) = false := by simpa using hxt
        have HLA := Lib.hid hlast
        clear hj hlt hx hdrop hb hxt hlast
        go_upto_region 8 with fail
        clear u0 y1
        go_loopw [9, 27] (fun nw i wx => ∃ (k : Nat) (u : Int), i = .int .i64 (k : Nat) ∧ nw = .int .i64 u ∧ k ≤ m ∧ u = (if (ac.take k).any (wrB x it) then x else v) ∧ Below W0.heap.size W0 wx) (fun _ i _ => m - (intOf i).toNat)
        case atStart => exact ⟨0, v, rfl, rfl, Nat.zero_le _, by simp, HBL.out⟩
        case round =>
          rename World => wx
          obtain ⟨k, u, rfl, rfl, hk, hu, hbx⟩ := hrel
          by_cases hkm : k < m
          · obtain ⟨a, ha⟩ : ∃ a, ac[k]? = some a := ⟨_, List.getElem?_eq_getElem (by rw [HB.out.h.al]; exact hkm)⟩
            obtain ⟨g', o', rfl, c0, c1, c2, c3⟩ := (HB.out.h.gw hbx).act ha
            obtain ⟨X, hX⟩ := Ac.box wx a
            have j1 : (k : Int) < (m : Int) := by omega
            have j2 : (k : Int) ≤ 4096 := by have := HN.out; omega
            have HTK := Lib.hid (any_take11 (p := wrB x it) ha)
            have HU := Lib.hid hu
            have HLK := Lib.hid hkm
            have HBX := Lib.hid (hbx.trans (hX.below.mono hbx.size))
            have d0 := hX.d0
            have d1 := hX.d1
            have d2 := hX.d2
            have HX := Lib.hid hX.eq
            obtain ⟨at_, aw, ai, av⟩ := a
            dsimp only at *
            clear hk hu hbx hkm ha hX
            go_upto_region 10 with fail
            rw [HX.out]
            clear c0 c1 c2 c3
            cases aw
            · have HT := Lib.hid (show u = (if (ac.take (k + 1)).any (wrB x it) = true then x else v) by rw [HTK.out, HU.out]; simp [wrB])
              go_wp2
              go_roundw
              case rel => exact ⟨k + 1, u, by go_num, rfl, HLK.out, HT.out, HBX.out⟩
              case measure => have := HLK.out; simp [intOf]; omega
            · by_cases ht : at_ = x
              · have e2 : (at_ == x) = true := by simpa using ht
                by_cases hi : ai = it
                · have e3 : (ai.toList == it.toList) = true := by rw [strEq11]; simpa using hi
                  have HT := Lib.hid (show x = (if (ac.take (k + 1)).any (wrB x it) = true then x else v) by rw [HTK.out]; simp [wrB, ht, hi])
                  clear ht hi
                  go_wp2
                  go_roundw
                  case rel => exact ⟨k + 1, x, by go_num, rfl, HLK.out, HT.out, HBX.out⟩
                  case measure => have := HLK.out; simp [intOf]; omega
                · have e3 : (ai.toList == it.toList) = false := by rw [strEq11]; simpa using hi
                  have HT := Lib.hid (show u = (if (ac.take (k + 1)).any (wrB x it) = true then x else v) by rw [HTK.out, HU.out]; simp [wrB, hi])
                  clear ht hi
                  go_wp2
                  go_roundw
                  case rel => exact ⟨k + 1, u, by go_num, rfl, HLK.out, HT.out, HBX.out⟩
                  case measure => have := HLK.out; simp [intOf]; omega
              · have e2 : (at_ == x) = false := by simpa using ht
                have HT := Lib.hid (show u = (if (ac.take (k + 1)).any (wrB x it) = true then x else v) by rw [HTK.out, HU.out]; simp [wrB, ht])
                clear ht
                go_wp2
                go_roundw
                case rel => exact ⟨k + 1, u, by go_num, rfl, HLK.out, HT.out, HBX.out⟩
                case measure => have := HLK.out; simp [intOf]; omega
          · obtain rfl : k = m := by omega
            have j1 : ¬ (k : Int) < (k : Int) := by omega
            rw [← HB.out.h.al, List.take_length] at hu
            have HU := Lib.hid (show lastP ac t it (l.drop (j + 1)) u = r by rw [hu]; exact HLA.out)
            have HBX := Lib.hid hbx
            clear hk hu hbx hkm
            go_wp2
            go_roundw
            case rel => exact ⟨j + 1, u, by go_num, rfl, HLT.out, HU.out, HBX.out⟩
            case measure => have := HLT.out; simp [intOf]; omega
    · obtain rfl : j = on := by omega
      have i1 : ¬ (j : Int) < (j : Int) := by omega
      rw [← HL.out, List.drop_length, lastP] at hlast
      subst hlast
      have HBL := Lib.hid hb
      clear hj hlt hb
      go_wp2
      go_ret
      exact ⟨rfl, HB.out.below.trans (HBL.out.mono HB.out.below.size)⟩
end
end Go.Proofs.YtnpeankmmojebaaDoor

/- Layer 11: the first order and the shortest round of a right history, plainly: one of them is there, never both. -/
namespace Go.Proofs.YtnpeankmmojebaaDoor
set_option maxRecDepth 100000

section
variable {cs : List Int} {ac : List Ac} {M : List Nat}
/-- The numbers of ranks. -/
def numsP (cs : List Int) (M : List Nat) : List Int := M.map fun r => (riseP cs).getD r 0
theorem Right.rl (hR : Right cs ac) : (riseP cs).length = cs.length := by rw [← sorted_is hR.nd, List.length_mergeSort]
theorem Right.gmem (hR : Right cs ac) : ∀ d ∈ graphP cs ac, d.fr ∈ riseP cs ∧ d.to ∈ riseP cs := fun d hd => by
  obtain ⟨h1, h2, -⟩ := hR.graph_mem hd
  exact ⟨((rise_is cs).2 _).2 h1, ((rise_is cs).2 _).2 h2⟩
theorem nums_at {i r : Nat} (h : M[i]? = some r) {x : Int} (hx : (riseP cs)[r]? = some x) : (numsP cs M)[i]? = some x := by
  unfold numsP
  rw [List.getElem?_map, h, Option.map_some, List.getD_eq_getElem?_getD, hx]; rfl
/-- An order of all ranks is one of all transactions, in which each dependency leads forward. -/
theorem fwd_of (hR : Right cs ac) (hM : LayP (edgeH cs ac) cs.length M) (hl : M.length = cs.length) : Fwd cs ac (numsP cs M) ∧ OrdP cs (numsP cs M) := by
  have hrl := hR.rl
  have hget : ∀ (i r : Nat), M[i]? = some r → ∃ x, (riseP cs)[r]? = some x ∧ (numsP cs M)[i]? = some x := fun i r h => by
    have hr := hM.lt r (List.mem_of_getElem? h)
    obtain ⟨x, hx⟩ : ∃ x, (riseP cs)[r]? = some x := ⟨_, List.getElem?_eq_getElem (by rw [hrl]; exact hr)⟩
    exact ⟨x, hx, nums_at h hx⟩
  have hnl : (numsP cs M).length = M.length := by simp [numsP]
  have hnd : (numsP cs M).Nodup := by
    rw [List.nodup_iff_pairwise_ne, List.pairwise_iff_getElem]
    intro i j hi hj hij e
    rw [hnl] at hi hj
    obtain ⟨x, h1, h2⟩ := hget i M[i] (List.getElem?_eq_getElem hi)
    obtain ⟨y, h3, h4⟩ := hget j M[j] (List.getElem?_eq_getElem hj)
    rw [(List.getElem?_eq_some_iff.1 h2).2, (List.getElem?_eq_some_iff.1 h4).2] at e
    subst e
    have e1 := idx_of (rise_nodup cs) h1
    have e2 := idx_of (rise_nodup cs) h3
    have := List.pairwise_iff_getElem.1 (List.nodup_iff_pairwise_ne.1 hM.nodup) i j hi hj hij
    omega
  have hsub : ∀ x ∈ numsP cs M, x ∈ cs := fun x hx => by
    obtain ⟨i, hi⟩ := List.mem_iff_getElem?.1 hx
    obtain ⟨r, hr⟩ : ∃ r, M[i]? = some r := ⟨_, List.getElem?_eq_getElem (by rw [← hnl]; exact (List.getElem?_eq_some_iff.1 hi).1)⟩
    obtain ⟨y, h1, h2⟩ := hget i r hr
    rw [hi] at h2
    cases h2
    exact ((rise_is cs).2 _).1 (List.mem_of_getElem? h1)
  have hlen : (numsP cs M).length = cs.length := by rw [hnl, hl]
  refine ⟨⟨hnd, fun x => ⟨hsub x, sub_back _ _ hnd hsub (by rw [hlen]; exact Nat.le_refl _) x⟩, fun d hd => ?_⟩, hlen, hnd, hsub⟩
  obtain ⟨m1, m2⟩ := hR.gmem d hd
  have he : (edgeP (riseP cs) d) ∈ edgeH cs ac := List.mem_map.2 ⟨d, hd, rfl⟩
  have hu := (hR.edOk.lt _ he)
  have hvM := hM.all hl _ hu.2
  have huM := hM.all hl _ hu.1
  have ha := hM.ahead _ _ hvM he
  have key : ∀ (x : Int) (r : Nat), x ∈ riseP cs → r = (riseP cs).idxOf x → r ∈ M → (numsP cs M).idxOf x = M.idxOf r := fun x r hx hr hrM => by
    refine idx_of hnd (nums_at (i := M.idxOf r) (r := r) ?_ (by rw [hr]; exact plcP_at hx))
    rw [List.getElem?_eq_getElem (List.idxOf_lt_length_of_mem hrM), List.getElem_idxOf]
  rw [key d.fr _ m1 rfl huM, key d.to _ m2 rfl hvM]
  exact ha
theorem no_round (hM : LayP (edgeH cs ac) cs.length M) (hl : M.length = cs.length) {l : List Int} (hr : RdIs cs ac l) : l = [] := by
  obtain ⟨r, h1, -, rfl⟩ := hr
  rcases h1 with ⟨rfl, -⟩ | ⟨f, k, a1, a2, -⟩
  · rfl
  · exact absurd a2 (hM.noround f (hM.all hl f a1) k)
/-- A round's next one. -/
theorem round_next (hR : Right cs ac) (hM : LayP (edgeH cs ac) cs.length M) (hs : ∀ v, v < cs.length → rdyB (edgeH cs ac) M v = false) (hl : M.length ≠ cs.length) {l : List Int} (hr : RdIs cs ac l) :
    2 ≤ l.length ∧ ∀ i, i < l.length → ∃ x y, l[i]? = some x ∧ l[(i + 1) % l.length]? = some y ∧ leadB (graphP cs ac) x y = true := by
  obtain ⟨r, h1, h2, rfl⟩ := hr
  rcases h1 with ⟨rfl, h3⟩ | ⟨f, k, a1, a2, a3, a4, a5, a6, a7⟩
  · obtain ⟨v, q, hv, hw⟩ := hM.round hR.edOk hs hl
    exact absurd hw (h3 v q hv)
  · have hk : 2 ≤ k := by
      rcases Nat.lt_or_ge k 2 with q | q
      · have := a2.pos
        have : k = 1 := by omega
        subst this
        cases a2 with
        | one he => exact absurd rfl (hR.edOk.ne _ he)
        | cons he hw => have := hw.pos; omega
      · exact q
    rw [List.length_map, a5]
    refine ⟨hk, fun i hi => ?_⟩
    obtain ⟨x, hx⟩ : ∃ x, r[i]? = some x := ⟨_, List.getElem?_eq_getElem (by omega)⟩
    obtain ⟨y, hy, he⟩ : ∃ y, r[(i + 1) % k]? = some y ∧ (x, y) ∈ edgesP (riseP cs) (graphP cs ac) := by
      rcases Nat.lt_or_ge (i + 1) k with q | q
      · obtain ⟨y, hy⟩ : ∃ y, r[i + 1]? = some y := ⟨_, List.getElem?_eq_getElem (by omega)⟩
        exact ⟨y, by rw [Nat.mod_eq_of_lt q]; exact hy, (a7 i x y q hx hy).1.1⟩
      · have hik : i + 1 = k := by omega
        rw [hik, Nat.mod_self]
        refine ⟨f, a6, ?_⟩
        obtain ⟨z, hz⟩ : ∃ z, r[i - 1]? = some z := ⟨_, List.getElem?_eq_getElem (by omega)⟩
        have hd := (a7 (i - 1) z x (by omega) hz (by rw [show i - 1 + 1 = i by omega]; exact hx)).1.2
        rw [show k - (i - 1 + 1) = 1 by omega] at hd
        cases hd.1 with
        | one he => exact he
        | cons he hw => have := hw.pos; omega
    have hrl := hR.rl
    have hlt := hR.edOk.lt _ he
    obtain ⟨nx, hnx⟩ : ∃ v, (riseP cs)[x]? = some v := ⟨_, List.getElem?_eq_getElem (by rw [hrl]; exact hlt.1)⟩
    obtain ⟨ny, hny⟩ : ∃ v, (riseP cs)[y]? = some v := ⟨_, List.getElem?_eq_getElem (by rw [hrl]; exact hlt.2)⟩
    refine ⟨nx, ny, ?_, ?_, (lead_edge (rise_nodup cs) hR.gmem hnx hny).2 he⟩
    · rw [List.getElem?_map, hx, Option.map_some, List.getD_eq_getElem?_getD, hnx]; rfl
    · rw [List.getElem?_map, hy, Option.map_some, List.getD_eq_getElem?_getD, hny]; rfl
end
end Go.Proofs.YtnpeankmmojebaaDoor

/- A region that draws its order, whose operations read and whose callees lay new memory alone, walked in the order of the text, what follows behind a structure (operations that are struck by their guard are not unfolded ahead of their turn). -/
namespace Go.Proofs.YtnpeankmmojebaaDoor
set_option maxRecDepth 100000
open Go.RowKit Go.Sort

structure HidS (p : Prop) : Prop where
  out : p
theorem wp_region_quietH {P : Program} {id : Nat} {Q : Exit → Act → World → Prop} {a : Act} {w : World} {l : List Oper} (hm : P.follows .mixedOrders = true) (hB : Region.lexB .any l.toArray = true)
    (h : HidS (wpQuiet P l.toArray (fun w' => ∃ p : Regrown, w' = grow (redrawn w p.d) p.os) (fun a' => ∀ w', (∃ p : Regrown, w' = grow (redrawn w p.d) p.os) → Q .normal a' w') l a)) : (Code.region id l.toArray true).wp P Q a w := wp_region_quiet_below hm hB h.out
section
variable {P : Program} {ops : Array Oper} {C : World → Prop} {Q : Act → Prop} {a : Act} {o : Oper} {rest : List Oper}
theorem wpQuiet_stepH (h : ∀ K : Act → Prop, (∀ a, HidS (wpQuiet P ops C Q rest a) → K a) → if Region.wanted o (yielded ops a.tmps) then o.quiet P a C K else K (a.put o.dst undef)) : HidS (wpQuiet P ops C Q (o :: rest) a) := ⟨h _ (fun _ h => h.out)⟩
theorem wpQuiet_nilH (h : Q a) : HidS (wpQuiet P ops C Q [] a) := ⟨h⟩
theorem wpQuiet_loadH (hw : Region.wanted o (yielded ops a.tmps) = true) (ty : TypeId) (x : Operand) (ho : o.op = .load ty x)
    (b off : Nat) (hx : a.eval x = .pointer (some ⟨b, off, none⟩)) (cs : List Value) (d : TypeDesc) (hc : ∀ w, C w → w.rangeAt b off cs) (hu : P.underlying ty = some d) (hd : d.isRow = true) (hi : (P.info? ty).map (·.size) = some cs.length)
    (h : HidS (wpQuiet P ops C Q rest (a.put o.dst (.agg cs.toArray)))) : HidS (wpQuiet P ops C Q (o :: rest) a) := by
  refine ⟨?_⟩
  rw [wpQuiet, if_pos hw]
  refine ⟨_, fun w hw' => ?_, h.out⟩
  unfold Oper.quietAt execOp
  simp only [ho, hx, Instr.loadAt, Instr.sureAddr, Sem.run_bind, Sem.run_pure, Result.andThen_ok, run_loadVar_mid w b off ty cs d (hc w hw') hu hd hi]
  exact ⟨rfl, rfl⟩
end
theorem range_regrownH {w : World} {b o : Nat} {cs : List Value} (h : w.rangeAt b o cs) (w' : World) (hw : ∃ p : Regrown, w' = grow (redrawn w p.d) p.os) : w'.rangeAt b o cs := by
  obtain ⟨p, rfl⟩ := hw
  exact fun i v hv => cell_regrown (h i v hv) _ _
end Go.Proofs.YtnpeankmmojebaaDoor
