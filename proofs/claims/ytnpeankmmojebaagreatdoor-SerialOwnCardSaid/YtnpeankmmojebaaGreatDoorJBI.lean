import Derived.Test.YtnpeankmmojebaaGreatDoorJBH
/- Layer 11: the program's pivots, plainly. -/
set_option linter.unusedVariables false
namespace Go.Proofs.YtnpeankmmojebaaGreatDoor
set_option maxRecDepth 100000

def cntT (g : List Dp) (n : Int) : Nat := g.countP fun d => decide (d.kd = 3) && decide (d.to = n)
theorem cntT_next {g : List Dp} {j : Nat} {d : Dp} (h : g[j]? = some d) (n : Int) : cntT (g.take (j + 1)) n = if d.kd = 3 ∧ d.to = n then cntT (g.take j) n + 1 else cntT (g.take j) n := by
  unfold cntT
  rw [List.take_add_one, h, Option.toList_some, List.countP_append]
  by_cases h1 : d.kd = 3 <;> by_cases h2 : d.to = n <;> simp [h1, h2]
theorem cntT_le (g : List Dp) (j : Nat) (n : Int) : cntT (g.take j) n ≤ j := by
  unfold cntT
  refine Nat.le_trans (List.countP_le_length) ?_
  rw [List.length_take]; omega
theorem cntT_pos (g : List Dp) (n : Int) : 0 < cntT g n ↔ toW g n = true := by
  unfold cntT toW
  rw [List.countP_pos_iff, List.any_eq_true]
def stepP (g0 : List Dp) (l : List Int) (d : Dp) : List Int := if d.kd = 3 ∧ toW g0 d.fr = true ∧ l.getLast? ≠ some d.fr then l ++ [d.fr] else l
theorem stepP_next {g0 g : List Dp} {j : Nat} {d : Dp} (h : g[j]? = some d) : (g.take (j + 1)).foldl (stepP g0) [] = stepP g0 ((g.take j).foldl (stepP g0) []) d := by
  rw [List.take_add_one, h, Option.toList_some, List.foldl_append]
  rfl
theorem stepP_inv {g0 g : List Dp} (hs : g.Pairwise (lessD · · = true)) : ∀ j, j ≤ g.length → ((g.take j).foldl (stepP g0) []).Pairwise (ltN · · = true) ∧ ∀ y, y ∈ (g.take j).foldl (stepP g0) [] ↔ ∃ d ∈ g.take j, d.kd = 3 ∧ toW g0 y = true ∧ d.fr = y
  | 0, _ => ⟨List.Pairwise.nil, by simp⟩
  | j + 1, hj => by
    obtain ⟨d, hd⟩ : ∃ d, g[j]? = some d := ⟨_, List.getElem?_eq_getElem (by omega)⟩
    obtain ⟨h1, h2⟩ := stepP_inv (g0 := g0) hs j (by omega)
    rw [stepP_next hd]
    generalize (g.take j).foldl (stepP g0) [] = L at h1 h2
    have hle : ∀ d' ∈ g.take j, d'.fr ≤ d.fr := fun d' hd' => by
      obtain ⟨i, hi⟩ := List.mem_iff_getElem?.1 hd'
      have hl := (List.getElem?_eq_some_iff.1 hi).1
      rw [List.length_take] at hl
      rw [List.getElem?_take_of_lt (by omega)] at hi
      have hi2 := (List.getElem?_eq_some_iff.1 hi).1
      have hj2 := (List.getElem?_eq_some_iff.1 hd).1
      have := List.pairwise_iff_getElem.1 hs i j hi2 hj2 (by omega)
      rw [List.getElem?_eq_getElem hi2] at hi
      rw [List.getElem?_eq_getElem hj2] at hd
      rw [Option.some.inj hi, Option.some.inj hd] at this
      unfold lessD at this
      split at this
      · omega
      · have := of_decide_eq_true this; omega
    have hmem : ∀ y, (∃ d' ∈ g.take (j + 1), d'.kd = 3 ∧ toW g0 y = true ∧ d'.fr = y) ↔ y ∈ L ∨ (d.kd = 3 ∧ toW g0 y = true ∧ d.fr = y) := fun y => by
      rw [h2, List.take_add_one, hd, Option.toList_some]
      constructor
      · rintro ⟨d', hm, hr⟩
        rcases List.mem_append.1 hm with k | k
        · exact .inl ⟨d', k, hr⟩
        · rw [List.mem_singleton.1 k] at hr; exact .inr hr
      · rintro (⟨d', hm, hr⟩ | hr)
        · exact ⟨d', List.mem_append.2 (.inl hm), hr⟩
        · exact ⟨d, List.mem_append.2 (.inr (List.mem_singleton.2 rfl)), hr⟩
    have hbelow : ∀ y ∈ L, y ≤ d.fr := fun y hy => by
      obtain ⟨d', hm, -, -, e⟩ := (h2 y).1 hy
      rw [← e]; exact hle d' hm
    unfold stepP
    by_cases hc : d.kd = 3 ∧ toW g0 d.fr = true ∧ L.getLast? ≠ some d.fr
    · rw [if_pos hc]
      refine ⟨List.pairwise_append.2 ⟨h1, List.pairwise_singleton _ _, fun a ha b hb => ?_⟩, fun y => ?_⟩
      · rw [List.mem_singleton.1 hb]
        have h3 := hbelow a ha
        have hne : a ≠ d.fr := fun e => by
          obtain ⟨z, hz⟩ : ∃ z, L.getLast? = some z := by
            cases hl : L.getLast? with
            | none => rw [List.getLast?_eq_none_iff] at hl; rw [hl] at ha; cases ha
            | some z => exact ⟨z, rfl⟩
          obtain ⟨M, hM⟩ := List.getLast?_eq_some_iff.1 hz
          have hzL : z ∈ L := by rw [hM]; simp
          have hzle := hbelow z hzL
          have haz : a ≤ z := by
            rw [hM] at ha h1
            rcases List.mem_append.1 ha with k | k
            · have := (List.pairwise_append.1 h1).2.2 a k z (List.mem_singleton.2 rfl)
              have : a < z := by simpa [ltN] using this
              omega
            · rw [List.mem_singleton.1 k]; exact Int.le_refl _
          exact hc.2.2 (by rw [hz]; congr 1; omega)
        have : a < d.fr := by omega
        simpa [ltN] using this
      · rw [hmem, List.mem_append, List.mem_singleton]
        constructor
        · rintro (k | k)
          · exact .inl k
          · exact .inr ⟨hc.1, by rw [k]; exact hc.2.1, k.symm⟩
        · rintro (k | k)
          · exact .inl k
          · exact .inr k.2.2.symm
    · rw [if_neg hc]
      refine ⟨h1, fun y => ?_⟩
      rw [hmem]
      constructor
      · exact .inl
      · rintro (k | ⟨k1, k2, k3⟩)
        · exact k
        · by_cases hl : L.getLast? = some d.fr
          · obtain ⟨M, hM⟩ := List.getLast?_eq_some_iff.1 hl
            rw [hM, ← k3]; simp
          · exact absurd ⟨k1, by rw [k3]; exact k2, hl⟩ hc
theorem Right.pivots {cs : List Int} {ac : List Ac} (h : Right cs ac) : (graphP cs ac).foldl (stepP (graphP cs ac)) [] = pivP cs (graphP cs ac) := by
  obtain ⟨h1, h2⟩ := stepP_inv (g0 := graphP cs ac) (graph_is cs ac).1 (graphP cs ac).length (Nat.le_refl _)
  rw [List.take_length] at h1 h2
  have hp : (pivP cs (graphP cs ac)).Pairwise (ltN · · = true) := (rise_is cs).1.filter _
  have e1 := rise_unique (l := pivP cs (graphP cs ac)) h1 fun y => by
    rw [h2]
    unfold pivP
    rw [List.mem_filter, (rise_is cs).2]
    unfold pvB frW
    rw [Bool.and_eq_true, List.any_eq_true]
    constructor
    · rintro ⟨d, hd, k1, k2, k3⟩
      exact ⟨k3 ▸ (h.graph_mem hd).1, k2, d, hd, by simp [k1, k3]⟩
    · rintro ⟨-, k2, d, hd, k⟩
      simp at k
      exact ⟨d, hd, k.1, k2, k.2⟩
  have e2 := rise_unique (l := pivP cs (graphP cs ac)) hp fun y => Iff.rfl
  rw [e1, ← e2]
end Go.Proofs.YtnpeankmmojebaaGreatDoor

/- Layer 11: the program's Pivots. -/
namespace Go.Proofs.YtnpeankmmojebaaGreatDoor
set_option maxRecDepth 100000
set_option maxRecDepth 100000
open Go.RowKit Go.Maps Go.ChangeMaps Go.MapKept

theorem putM_le11 {κ : Type} [DecidableEq κ] (hs : List (κ × Value)) (x : κ) (v : Value) : (putM hs x v).length ≤ hs.length + 1 := by
  unfold putM
  rw [List.length_append, List.length_singleton]
  exact Nat.succ_le_succ (by unfold delM; exact List.length_filter_le _ _)
section
variable {w : World} {A B : Option Addr} {n c m d : Nat} {cs : List Int} {ac : List Ac}
set_option maxHeartbeats 64000000 in
theorem wsPivOk (h : Hist w A n c B m d cs ac) (hR : Right cs ac) :
    Calls Tryz.prog 16 #[histV A n c B m d] w fun e w' => ∃ v, e = .returned (.tuple #[v, .int .i64 0]) ∧ SO seI w.heap.size w' v (pivP cs (graphP cs ac)).length (numC (pivP cs (graphP cs ac))) ∧ Below w.heap.size w w' := by
  obtain ⟨W0, hB⟩ := h.box
  have HB := Lib.hid hB
  have HW := Lib.hid hB.eq
  have x0 := hB.x0
  have x1 := hB.x1
  have CC := Lib.hid (wsCheck hB.h)
  rw [errH_ok hR] at CC
  have CD := Lib.hid (fun W (hW : Below W0.heap.size W0 W) => wsDeps (hB.h.gw hW) hR)
  have HGL := Lib.hid (show (graphP cs ac).length ≤ 8192 by have := hR.edges_len; unfold edgesP at this; rwa [List.length_map] at this)
  have HPV := Lib.hid hR.pivots
  have HWF := Lib.hid (fun (e : Dp) (he : e ∈ graphP cs ac) => (⟨h.cw _ (hR.graph_mem he).1, h.cw _ (hR.graph_mem he).2.1⟩ : wfI e.fr ∧ wfI e.to))
  unfold histV at CC CD ⊢
  obtain ⟨PV, hPV⟩ : ∃ l, pivP cs (graphP cs ac) = l := ⟨_, rfl⟩
  rw [hPV] at HPV ⊢
  obtain ⟨GR, hGR⟩ : ∃ g, graphP cs ac = g := ⟨_, rfl⟩
  rw [hGR] at CD HGL HPV HWF
  clear h hB hR hGR hPV
  go_enter Tryz.func16, Tryz.ntmps16
  go_upto_region 1 with fail
  rw [HW.out]
  go_upto_region 5 with (go_at_call 22; go_loud (refine CC.out.mono ?_; rintro e w1 ⟨rfl, b1⟩; have B1 := Lib.hid b1; have C1 := Lib.hid (CD.out w1 b1); have y0 := keep_below x0 b1; have y1 := keep_below x1 b1; clear b1))
  clear x0 x1
  go_upto_region 6 with (go_at_call 35; go_loud (refine C1.out.mono ?_; rintro e w2 ⟨v2, rfl, s2, b2⟩; have hf2 := s2.form; obtain ⟨dA, dc, rfl, hsb, -⟩ := hf2; have S2 := Lib.hid hsb; have B2 := Lib.hid b2; clear s2 b2 hsb))
  clear y0 y1
  obtain ⟨q, hq⟩ : ∃ q, GR.length = q := ⟨_, rfl⟩
  have DS := Lib.hid (show SB w2 dA (3 * GR.length) (cellsE dpC GR) from S2.out)
  have HQ := Lib.hid hq
  rw [hq] at HGL ⊢
  clear S2 hq
  obtain ⟨W3, hW3⟩ : ∃ W, w2.alloc (.map #[] 0) = W := ⟨_, rfl⟩
  have rm : (Instr.makeMap mapII none).run Tryz.prog w2 = .ok (.map (some w2.heap.size)) W3 := hW3 ▸ rfl
  have M3 := Lib.hid (show MapM KN W3 w2.heap.size [] from hW3 ▸ MapM.new KN w2)
  have B3 := Lib.hid (show Below w2.heap.size w2 W3 from hW3 ▸ alloc_below11 w2 _)
  have SZ3 := Lib.hid (show W3.heap.size = w2.heap.size + 1 by have := congrArg (fun W => W.heap.size) hW3; simpa using this.symm)
  clear hW3
  go_upto_region 8 with fail
  go_loopw [22] (fun i wr => ∃ (j : Nat) (hs : List (Int × Value)), i = .int .i64 (j : Nat) ∧ j ≤ q ∧ MapM KN wr w2.heap.size hs ∧ (∀ v, (getM hs v).getD (.int .i64 0) = .int .i64 (cntT (GR.take j) v : Nat)) ∧ hs.length ≤ j ∧ Below w2.heap.size w2 wr) (fun i _ => q - (intOf i).toNat)
  case atStart => exact ⟨0, [], rfl, Nat.zero_le _, M3.out, fun v => rfl, Nat.le_refl _, B3.out⟩
  case round =>
    rename World => wr
    obtain ⟨j, hs, rfl, hj, hmv, hcnt, hlen, hbl⟩ := hrel
    by_cases hlt : j < q
    · obtain ⟨y, hy⟩ : ∃ y, GR[j]? = some y := ⟨_, List.getElem?_eq_getElem (by rw [HQ.out]; exact hlt)⟩
      obtain ⟨g, o, rfl, c0, c1, c2⟩ := DL.at_ (DS.out.gw hbl) hy
      have hwf := HWF.out y (List.mem_of_getElem? hy)
      have HCT := Lib.hid (cntT_next hy)
      obtain ⟨X, hX⟩ : ∃ X, wr.alloc (.cells #[.int .i64 y.fr, .int .i64 y.to, .int .i64 y.kd] 51) = X := ⟨_, rfl⟩
      have bX : Below wr.heap.size wr X := hX ▸ alloc_below11 wr _
      have qX : X.heap[wr.heap.size]? = some (.cells #[.int .i64 y.fr, .int .i64 y.to, .int .i64 y.kd] 51 (0, 0)) := hX ▸ heap_alloc_new wr _
      have d1 : X.cell? ⟨wr.heap.size, 1, none⟩ = some (.int .i64 y.to) := cell_of_row _ _ 1 _ _ _ qX
      have d2 : X.cell? ⟨wr.heap.size, 2, none⟩ = some (.int .i64 y.kd) := cell_of_row _ _ 2 _ _ _ qX
      have mX : MapM KN X w2.heap.size hs := hmv.block (bX.block _ hmv.lt)
      have lk := mX.look mapII_und (zeroI X) (x := y.to) hwf.2
      rw [hcnt] at lk
      have hcl := cntT_le GR j y.to
      obtain ⟨z, hz⟩ : ∃ z, cntT (GR.take j) y.to = z := ⟨_, rfl⟩
      rw [hz] at lk hcl
      have lk : (Instr.lookup mapII (.map (some w2.heap.size)) (.int .i64 y.to) false).run Tryz.prog X = .ok (.int .i64 (z : Nat)) X := lk
      have i1 : (j : Int) < (q : Int) := by omega
      have l1 : (j : Int) ≤ 8192 := by have := HGL.out; omega
      have l2 : (z : Int) ≤ 8192 := by have := HGL.out; omega
      have HX := Lib.hid hX
      have HBX := Lib.hid (hbl.trans (bX.mono hbl.size))
      have MX := Lib.hid mX
      have HCN := Lib.hid hcnt
      have HLE := Lib.hid hlen
      have HLT := Lib.hid hlt
      have HZ := Lib.hid hz
      have HWY := Lib.hid hwf.2
      obtain ⟨yf, yt, yk⟩ := y
      dsimp only at *
      clear hy hwf hX bX qX mX hcnt hlen hlt hz hj hmv hbl hcl
      by_cases hk : yk = 3
      · subst hk
        go_upto_region 10 with fail
        rw [HX.out]
        clear c0 c1 c2
        go_wp2_with (at_mapUpdate; go_loud (refine wp_put11 KN (by rfl) (.tmp 29) (.tmp 31) (.tmp 33) (by rfl) (by rfl) MX.out mapII_und yt HWY.out (by rfl) (by have := HLE.out; have := HLT.out; have := HGL.out; omega) ?_; intro w5 m5 o5; have M5 := Lib.hid m5; have O5 := Lib.hid o5; clear m5 o5; go_frame))
        go_roundw
        case rel =>
          refine ⟨j + 1, putM hs yt (.int .i64 ((z : Int) + 1)), by go_num, HLT.out, M5.out, fun v => ?_, ?_, HBX.out.trans (O5.out.below HBX.out.size fun i hi e => by omega)⟩
          · rw [getM_put, HCT.out]
            by_cases e : v = yt
            · subst e
              rw [if_pos rfl, if_pos ⟨rfl, rfl⟩, HZ.out]; rfl
            · rw [if_neg e, if_neg (fun k => e k.2.symm)]; exact HCN.out v
          · have := putM_le11 hs yt (.int .i64 ((z : Int) + 1)); have := HLE.out; omega
        case measure => have := HLT.out; simp [intOf]; omega
      · have hk' : (yk == 3) = false := by simpa using hk
        have HK := Lib.hid hk
        clear hk
        go_upto_region 10 with fail
        rw [HX.out]
        clear c0 c1 c2
        go_wp2
        go_roundw
        case rel => exact ⟨j + 1, hs, by go_num, HLT.out, MX.out, fun v => by rw [HCT.out, if_neg (fun k => HK.out k.1)]; exact HCN.out v, by have := HLE.out; omega, HBX.out⟩
        case measure => have := HLT.out; simp [intOf]; omega
    · obtain rfl : j = q := by omega
      have i1 : ¬ (j : Int) < (j : Int) := by omega
      rw [show GR.take j = GR by rw [← HQ.out, List.take_length]] at hcnt
      have HCN := Lib.hid hcnt
      have HMV := Lib.hid hmv
      have HBL := Lib.hid hbl
      clear hj hlt hmv hcnt hlen hbl
      go_upto_region 14 with fail
      go_loopw [5, 37] (fun lv i wx => ∃ k : Nat, i = .int .i64 (k : Nat) ∧ k ≤ j ∧ SO seI wr.heap.size wx lv ((GR.take k).foldl (stepP GR) []).length (numC ((GR.take k).foldl (stepP GR) [])) ∧ Below wr.heap.size wr wx) (fun _ i _ => j - (intOf i).toNat)
      case atStart => exact ⟨0, rfl, Nat.zero_le _, SO.nil _ _ _, Below.refl _ _⟩
      case round =>
        rename World => wx
        obtain ⟨k, rfl, hk, hso, hbx⟩ := hrel
        by_cases hkq : k < j
        · obtain ⟨y, hy⟩ : ∃ y, GR[k]? = some y := ⟨_, List.getElem?_eq_getElem (by rw [HQ.out]; exact hkq)⟩
          have bxx : Below w2.heap.size w2 wx := HBL.out.trans (hbx.mono HBL.out.size)
          obtain ⟨g, o, rfl, c0, c1, c2⟩ := DL.at_ (DS.out.gw bxx) hy
          have hwf := HWF.out y (List.mem_of_getElem? hy)
          have HST := Lib.hid (stepP_next (g0 := GR) hy)
          have HLL := Lib.hid (show ((GR.take k).foldl (stepP GR) []).length ≤ 8192 by
            have key : ∀ (ds : List Dp) (l : List Int), (ds.foldl (stepP GR) l).length ≤ l.length + ds.length := fun ds => by
              induction ds with
              | nil => intro l; simp
              | cons d ds ih =>
                intro l
                rw [List.foldl_cons]
                have h1 := ih (stepP GR l d)
                have h2 : (stepP GR l d).length ≤ l.length + 1 := by unfold stepP; split <;> simp
                rw [List.length_cons]; omega
            have := key (GR.take k) []
            rw [List.length_take, List.length_nil] at this
            have := HGL.out; have := HQ.out; omega)
          obtain ⟨L, hL⟩ : ∃ L, (GR.take k).foldl (stepP GR) [] = L := ⟨_, rfl⟩
          rw [hL] at hso HST HLL
          obtain ⟨X, hX⟩ : ∃ X, wx.alloc (.cells #[.int .i64 y.fr, .int .i64 y.to, .int .i64 y.kd] 51) = X := ⟨_, rfl⟩
          have bX : Below wx.heap.size wx X := hX ▸ alloc_below11 wx _
          have qX : X.heap[wx.heap.size]? = some (.cells #[.int .i64 y.fr, .int .i64 y.to, .int .i64 y.kd] 51 (0, 0)) := hX ▸ heap_alloc_new wx _
          have d0 : X.cell? ⟨wx.heap.size, 0, none⟩ = some (.int .i64 y.fr) := cell_of_row _ _ 0 _ _ _ qX
          have d2 : X.cell? ⟨wx.heap.size, 2, none⟩ = some (.int .i64 y.kd) := cell_of_row _ _ 2 _ _ _ qX
          have mX : MapM KN X w2.heap.size hs := (HMV.out.block (hbx.block _ HMV.out.lt)).block (bX.block _ (Nat.lt_of_lt_of_le HMV.out.lt hbx.size))
          have lk : ∀ nq, (Instr.lookup mapII (.map (some w2.heap.size)) (.int .i64 y.fr) false).run Tryz.prog (X.drewN nq) = .ok (.int .i64 (cntT GR y.fr : Nat)) (X.drewN nq) := fun nq => by
            have := (show MapM KN (X.drewN nq) w2.heap.size hs from mX.block rfl).look mapII_und (zeroI (X.drewN nq)) (x := y.fr) hwf.1
            rw [HCN.out] at this
            exact this
          have HPOS := Lib.hid (cntT_pos GR y.fr)
          obtain ⟨z, hz⟩ : ∃ z, cntT GR y.fr = z := ⟨_, rfl⟩
          rw [hz] at HPOS
          have lk2 : ∀ nq, (Instr.lookup mapII (.map (some w2.heap.size)) (.int .i64 y.fr) false).run Tryz.prog (X.drewN nq) = .ok (.int .i64 (z : Nat)) (X.drewN nq) := fun nq => by rw [← hz]; exact lk nq
          clear lk
          have i2 : (k : Int) < (j : Int) := by omega
          have l1 : (k : Int) ≤ 8192 := by have := HGL.out; omega
          have l3 : (L.length : Int) ≤ 8192 := by have := HLL.out; omega
          have HX := Lib.hid hX
          have HBX := Lib.hid (hbx.trans (bX.mono hbx.size))
          have HSX := Lib.hid (hso.below bX)
          have HKQ := Lib.hid hkq
          obtain ⟨lA, lc, rfl, lsb, -⟩ := hso.form
          have lsb : SB wx lA L.length (numC L) := by have e : seI.s * L.length = L.length := Nat.one_mul _; rwa [e] at lsb
          have LSB := Lib.hid (lsb.gw bX)
          obtain ⟨yf, yt, yk⟩ := y
          dsimp only at *
          have SBX := Lib.hid (fun (nq : Nat) => (show SB ((X.drewN nq).alloc (.cells #[.int .i64 yf] 3)) (some ⟨X.heap.size, 0, none⟩) (seI.s * 1) [.int .i64 yf] from ⟨rfl, fun u hu => by rw [List.mem_singleton.1 hu]; rfl, fun _ => ⟨X.heap.size, 0, rfl, fun i u hi => by
            have h1 : ((X.drewN nq).alloc (.cells #[.int .i64 yf] 3)).heap[X.heap.size]? = some (.cells #[.int .i64 yf] 3 (0, 0)) := heap_alloc_new (X.drewN nq) _
            rw [cell_of_row _ _ _ _ _ _ h1]
            simpa using hi⟩⟩))
          clear hy hwf hX bX qX mX hz hkq hso hbx bxx hL lsb hk
          by_cases hk3 : yk = 3
          · subst hk3
            by_cases hz0 : z = 0
            · subst hz0
              have d1 : decide (0 < (0 : Nat)) = false := by simp
              have HT := Lib.hid (show (GR.take (k + 1)).foldl (stepP GR) [] = L by rw [HST.out]; unfold stepP; rw [if_neg (fun q => by have := HPOS.out.2 q.2.1; omega)])
              go_upto_region 16 with fail
              rw [HX.out]
              clear c0 c1 c2
              go_quiet (fail)
              go_wp2
              go_roundw
              case rel => exact ⟨k + 1, by go_num, HKQ.out, by rw [HT.out]; exact HSX.out.below (below_drewN11 _ _), below_next HBX.out (below_drewN11 _ _)⟩
              case measure => have := HKQ.out; simp [intOf]; omega
            · have d1 : decide (0 < z) = true := by simp; omega
              have hzp : 0 < z := by omega
              have HTW := Lib.hid (HPOS.out.1 hzp)
              clear hz0 hzp
              rcases List.eq_nil_or_concat L with hL0 | ⟨M, ℓ, hLM⟩
              · subst hL0
                have HT := Lib.hid (show (GR.take (k + 1)).foldl (stepP GR) [] = ([] : List Int) ++ [yf] by rw [HST.out]; unfold stepP; rw [if_pos (⟨rfl, HTW.out, by simp⟩)])
                go_upto_region 16 with fail
                rw [HX.out]
                clear c0 c1 c2
                go_quiet (fail)
                go_wp2_with (at_builtin; go_loud (refine so_append seI_ok (by rfl) (.tmp 67) (.tmp 70) (by rfl) _ (by rfl) (((HSX.out.below (below_drewN11 _ nq)).alloc (.cells #[.int .i64 yf] 3))) (some ⟨X.heap.size, 0, none⟩) 1 1 [.int .i64 yf] (by rfl) (SBX.out nq) (by have := HLL.out; omega) (by have := HBX.out.size; simp; omega) ?_; intro v5 w5 o5 b5; have O5 := Lib.hid o5; have B5 := Lib.hid b5; clear o5 b5))
                go_roundw
                case rel =>
                  refine ⟨k + 1, by go_num, HKQ.out, ?_, ((below_next HBX.out (below_drewN11 _ nq)).alloc (below_next HBX.out (below_drewN11 _ nq)).size _).trans B5.out⟩
                  rw [HT.out]
                  simpa [numC] using O5.out
                case measure => have := HKQ.out; simp [intOf]; omega
              · rw [List.concat_eq_append] at hLM
                have hlen : L.length = M.length + 1 := by rw [hLM]; simp
                have hgl : L.getLast? = some ℓ := by rw [hLM]; simp
                have hat : L[M.length]? = some ℓ := by rw [hLM]; simp
                obtain ⟨gl, ol, rfl, cl⟩ := LSB.out.num hat
                have d5 : ((M.length : Int) + 1 == 0) = false := by simp; omega
                have HGL2 := Lib.hid hgl
                have HLEN := Lib.hid hlen
                have HSX2 := Lib.hid (show SO seI wr.heap.size X (.slice (some ⟨gl, ol, none⟩) (M.length + 1) lc) L.length (numC L) by rw [← hlen]; exact HSX.out)
                rw [hlen]
                rw [hlen] at l3
                clear hgl hat hLM hlen
                by_cases he : ℓ = yf
                · subst he
                  have HT := Lib.hid (show (GR.take (k + 1)).foldl (stepP GR) [] = L by rw [HST.out]; unfold stepP; rw [if_neg (fun q => q.2.2 HGL2.out)])
                  go_upto_region 16 with fail
                  rw [HX.out]
                  clear c0 c1 c2
                  go_quiet (fail)
                  go_wp2
                  go_roundw
                  case rel => exact ⟨k + 1, by go_num, HKQ.out, by rw [HT.out]; exact HSX2.out.below (below_drewN11 _ _), below_next HBX.out (below_drewN11 _ _)⟩
                  case measure => have := HKQ.out; simp [intOf]; omega
                · have e1 : (ℓ == yf) = false := by simpa using he
                  have HT := Lib.hid (show (GR.take (k + 1)).foldl (stepP GR) [] = L ++ [yf] by rw [HST.out]; unfold stepP; rw [if_pos (⟨rfl, HTW.out, by rw [HGL2.out]; intro e; exact he (Option.some.inj e)⟩)])
                  go_upto_region 16 with fail
                  rw [HX.out]
                  clear c0 c1 c2
                  go_quiet (fail)
                  go_wp2_with (at_builtin; go_loud (refine so_append seI_ok (by rfl) (.tmp 67) (.tmp 70) (by rfl) _ (by rfl) (((HSX2.out.below (below_drewN11 _ nq)).alloc (.cells #[.int .i64 yf] 3))) (some ⟨X.heap.size, 0, none⟩) 1 1 [.int .i64 yf] (by rfl) (SBX.out nq) (by have := HLL.out; omega) (by have := HBX.out.size; simp; omega) ?_; intro v5 w5 o5 b5; have O5 := Lib.hid o5; have B5 := Lib.hid b5; clear o5 b5))
                  go_roundw
                  case rel =>
                    refine ⟨k + 1, by go_num, HKQ.out, ?_, ((below_next HBX.out (below_drewN11 _ nq)).alloc (below_next HBX.out (below_drewN11 _ nq)).size _).trans B5.out⟩
                    rw [HT.out, List.length_append, List.length_singleton, show numC (L ++ [yf]) = numC L ++ [.int .i64 yf] by simp [numC]]
                    exact O5.out
                  case measure => have := HKQ.out; simp [intOf]; omega
          · have e3 : (yk == 3) = false := by simpa using hk3
            have HT := Lib.hid (show (GR.take (k + 1)).foldl (stepP GR) [] = L by rw [HST.out]; unfold stepP; rw [if_neg (fun q => hk3 q.1)])
            go_upto_region 16 with fail
            rw [HX.out]
            clear c0 c1 c2
            go_quiet (fail)
            go_wp2
            go_roundw
            case rel => exact ⟨k + 1, by go_num, HKQ.out, by rw [HT.out]; exact HSX.out.below (below_drewN11 _ _), below_next HBX.out (below_drewN11 _ _)⟩
            case measure => have := HKQ.out; simp [intOf]; omega
        · obtain rfl : k = j := by omega
          have i2 : ¬ (k : Int) < (k : Int) := by omega
          rw [show GR.take k = GR by rw [← HQ.out, List.take_length], HPV.out] at hso
          have HSO := Lib.hid hso
          have HBX := Lib.hid hbx
          clear hso hbx hkq hk
          go_wp2
          go_ret2
          have hb := below_next (below_next (below_next HB.out.below B1.out) B2.out) HBL.out
          exact ⟨_, rfl, HSO.out.lower hb.size, below_next hb HBX.out⟩
end
end Go.Proofs.YtnpeankmmojebaaGreatDoor
