/- Layer 11: the program's newNet, and that all that it makes is new. -/
import Derived.Test.YtnpeankmmojebaaGreatDoorSeNew
set_option linter.unusedVariables false
namespace Go.Proofs.YtnpeankmmojebaaGreatDoor
set_option maxRecDepth 100000
set_option maxRecDepth 100000
open Go.RowKit Go.Maps Go.ChangeMaps Go.MapKept

/-- A net whose blocks lie from N on. -/
def NetL (N : Nat) (W : World) (gb n : Nat) (ns : List Int) (E : Eg) : Prop := ∃ go gi base An cn vo vi, NetB W gb go gi base n An cn ns vo vi (LOf E n) (LIf E n) ∧ N ≤ gb ∧ N ≤ go ∧ N ≤ gi ∧ ∀ ad, An = some ad → N ≤ ad.block
theorem NetL.below {N : Nat} {W W' : World} {gb n : Nat} {ns : List Int} {E : Eg} (h : NetL N W gb n ns E) (hb : Below W.heap.size W W') : NetL N W' gb n ns E := by
  obtain ⟨go, gi, base, An, cn, vo, vi, k, h1, h2, h3, h4⟩ := h
  exact ⟨go, gi, base, An, cn, vo, vi, k.below hb, h1, h2, h3, h4⟩
theorem NetL.lower {N M : Nat} {W : World} {gb n : Nat} {ns : List Int} {E : Eg} (h : NetL N W gb n ns E) (hm : M ≤ N) : NetL M W gb n ns E := by
  obtain ⟨go, gi, base, An, cn, vo, vi, k, h1, h2, h3, h4⟩ := h
  exact ⟨go, gi, base, An, cn, vo, vi, k, Nat.le_trans hm h1, Nat.le_trans hm h2, Nat.le_trans hm h3, fun ad e => Nat.le_trans hm (h4 ad e)⟩
section
variable {w : World} {A B : Option Addr} {n c m d : Nat} {cs : List Int} {ac : List Ac}
set_option maxHeartbeats 64000000 in
theorem wsNewNetLo (h : Hist w A n c B m d cs ac) (hR : Right cs ac) :
    Calls Tryz.prog 26 #[histV A n c B m d] w fun e w' => ∃ gb, e = .returned (.pointer (some ⟨gb, 0, none⟩)) ∧ NetL w.heap.size w' gb n (riseP cs) (edgesP (riseP cs) (graphP cs ac)) ∧ Below w.heap.size w w' := by
  obtain ⟨W0, hB⟩ := h.box
  have HB := Lib.hid hB
  have HW := Lib.hid hB.eq
  have x0 := hB.x0
  have x1 := hB.x1
  have hn : n ≤ 4096 := by rw [← h.cl]; exact hR.lc
  have hm : m ≤ 4096 := by rw [← h.al]; exact hR.la
  have HN := Lib.hid hn
  have HM := Lib.hid hm
  have HR := Lib.hid hR
  have CV := Lib.hid (wsValues A n c W0)
  obtain ⟨W1, hW1⟩ : ∃ W, W0.alloc (.cells #[.slice A n c] 22) = W := ⟨_, rfl⟩
  have b1 : Below W0.heap.size W0 W1 := hW1 ▸ alloc_below11 W0 _
  have q1 : W1.heap[W0.heap.size]? = some (.cells #[.slice A n c] 22 (0, 0)) := hW1 ▸ heap_alloc_new W0 _
  have s1 : W1.heap.size = W0.heap.size + 1 := by have := congrArg (fun W => W.heap.size) hW1; simpa using this.symm
  have hAb : ∀ ad, A = some ad → 0 < n → ad.block < W1.heap.size := fun ad e h0 => by
    obtain ⟨g, o, e2, hc⟩ := hB.h.cb.cell h0
    rw [e] at e2
    cases e2
    obtain ⟨u, hu⟩ : ∃ u, (numC cs)[0]? = some u := ⟨_, List.getElem?_eq_getElem (by rw [numC_len, h.cl]; exact h0)⟩
    have := World.block_lt_of_cell? W0 _ (hc 0 u hu)
    dsimp only at this ⊢
    omega
  have CS := Lib.hid (wsSorted (w := W1) (bv := W0.heap.size) (N0 := W1.heap.size) (A := A) (n := n) (c := c) (cs := cs) (cell_of_row _ _ 0 _ _ _ q1) (hB.h.cb.gw b1) hB.h.cl hn (by omega) hAb (Nat.le_refl _))
  rw [sorted_is hR.nd] at CS
  have B1 := Lib.hid (below_next hB.below b1)
  have H1 := Lib.hid (hB.h.gw b1)
  have y0 := keep_below x0 b1
  have y1 := keep_below x1 b1
  have HW1 := Lib.hid hW1
  rw [hW1] at CV
  have hns : (riseP cs).length = n := by rw [← h.cl, ← sorted_is hR.nd, List.length_mergeSort]
  have hnw : ∀ x ∈ riseP cs, wfI x := fun x hx => h.cw x (((rise_is cs).2 x).1 hx)
  have HNS := Lib.hid hns
  have HNW := Lib.hid hnw
  have HND := Lib.hid (rise_nodup cs)
  have HMEM := Lib.hid (rise_is cs).2
  obtain ⟨ns, hnn⟩ : ∃ ns, riseP cs = ns := ⟨_, rfl⟩
  rw [hnn] at CS HNS HNW HND HMEM ⊢
  obtain ⟨GR, hGR⟩ : ∃ G, graphP cs ac = G := ⟨_, rfl⟩
  rw [hGR]
  have HGM := Lib.hid (show ∀ d ∈ GR, d.fr ∈ cs ∧ d.to ∈ cs ∧ d.fr ≠ d.to from fun d hd => hR.graph_mem (by rw [hGR]; exact hd))
  have HGL := Lib.hid (show GR.length ≤ 8192 by rw [← hGR]; have := graph_len cs ac ac []; unfold graphP; simp at this; have := hR.la; omega)
  have CD := Lib.hid (fun W (hW : Below W1.heap.size W1 W) => wsDeps ((hB.h.gw b1).gw hW) hR)
  rw [hGR] at CD
  clear h hB hn hm hR x1 hW1 b1 q1 s1 hAb hns hnw hnn hGR
  unfold histV
  unfold histV at CD
  go_enter Tryz.func26, Tryz.ntmps26
  go_upto_region 1 with fail
  rw [HW.out]
  go_upto_region 2 with (first
    | (go_at_call 46; go_loud (refine CV.out.mono ?_; rintro e w1 ⟨rfl, rfl⟩))
    | (go_at_call 45; go_loud (refine CS.out.mono ?_; rintro e w2 ⟨v2, rfl, s2, b2⟩; have S2 := Lib.hid s2; have B2 := Lib.hid b2; have hf2 := s2.form; obtain ⟨An, cn, rfl, hsb2, hnc, hcm, -⟩ := hf2; have SB2 := Lib.hid hsb2; have NC := Lib.hid (And.intro hnc hcm); have z0 := keep_below y0 b2; have z1 := keep_below y1 b2; clear s2 b2 hsb2 hnc hcm)))
  obtain ⟨X2, hX2⟩ : ∃ X, w2.alloc (.cells #[.slice An n cn, .slice none 0 0, .slice none 0 0] 79) = X := ⟨_, rfl⟩
  have bX2 : Below w2.heap.size w2 X2 := hX2 ▸ alloc_below11 w2 _
  have sX2 : X2.heap.size = w2.heap.size + 1 := by have := congrArg (fun W => W.heap.size) hX2; simpa using this.symm
  have r2 : X2.heap[w2.heap.size]? = some (.cells #[.slice An n cn, .slice none 0 0, .slice none 0 0] 79 (0, 0)) := hX2 ▸ heap_alloc_new w2 _
  obtain ⟨w3, mk3, so3, b3, l3⟩ := so_make seS_ok rfl rfl rfl X2 n (by have := HN.out; omega) 0 (Nat.zero_le _)
  have mk3 : (Instr.makeSlice 35 (.int .i64 (n : Int)) (.int .i64 (n : Int))).run Tryz.prog X2 = .ok (.slice (some ⟨X2.heap.size, 0, none⟩) n n) w3 := mk3
  have r3 : w3.heap[w2.heap.size]? = some (.cells #[.slice An n cn, .slice none 0 0, .slice none 0 0] 79 (0, 0)) := (b3.block _ (by omega)).trans r2
  obtain ⟨Y3, hY3⟩ : ∃ Y, w3.setCell ⟨w2.heap.size, 1, none⟩ (.slice (some ⟨X2.heap.size, 0, none⟩) n n) = Y := ⟨_, rfl⟩
  have rY3 : Y3.heap[w2.heap.size]? = some (.cells #[.slice An n cn, .slice (some ⟨X2.heap.size, 0, none⟩) n n, .slice none 0 0] 79 (0, 0)) := hY3 ▸ row_set11 r3 _
  have oY3 : Out (fun k => k = w2.heap.size) w3 Y3 := hY3 ▸ Out.setCell (F := fun k => k = w2.heap.size) (Out.refl _ w3) (p := ⟨w2.heap.size, 1, none⟩) (.inl rfl) _
  have soY3 := so3.out11 oY3 (fun k hk e => by have : X2.heap.size = k := by simpa [Value.ownBlock] using hk
                                               omega)
  have sY3 : Y3.heap.size = w3.heap.size := by have := congrArg (fun W => W.heap.size) hY3; simpa using this.symm
  obtain ⟨w4, mk4, so4, b4, l4⟩ := so_make seS_ok rfl rfl rfl Y3 n (by have := HN.out; omega) 0 (Nat.zero_le _)
  have mk4 : (Instr.makeSlice 35 (.int .i64 (n : Int)) (.int .i64 (n : Int))).run Tryz.prog Y3 = .ok (.slice (some ⟨Y3.heap.size, 0, none⟩) n n) w4 := mk4
  have r4 : w4.heap[w2.heap.size]? = some (.cells #[.slice An n cn, .slice (some ⟨X2.heap.size, 0, none⟩) n n, .slice none 0 0] 79 (0, 0)) := (b4.block _ (by omega)).trans rY3
  obtain ⟨Y4, hY4⟩ : ∃ Y, w4.setCell ⟨w2.heap.size, 2, none⟩ (.slice (some ⟨Y3.heap.size, 0, none⟩) n n) = Y := ⟨_, rfl⟩
  have rY4 : Y4.heap[w2.heap.size]? = some (.cells #[.slice An n cn, .slice (some ⟨X2.heap.size, 0, none⟩) n n, .slice (some ⟨Y3.heap.size, 0, none⟩) n n] 79 (0, 0)) := hY4 ▸ row_set11 r4 _
  have oY4 : Out (fun k => k = w2.heap.size) w4 Y4 := hY4 ▸ Out.setCell (F := fun k => k = w2.heap.size) (Out.refl _ w4) (p := ⟨w2.heap.size, 2, none⟩) (.inl rfl) _
  have soO := (soY3.below b4).out11 oY4 (fun k hk e => by have : X2.heap.size = k := by simpa [Value.ownBlock] using hk
                                                          omega)
  have soI := so4.out11 oY4 (fun k hk e => by have : Y3.heap.size = k := by simpa [Value.ownBlock] using hk
                                              omega)
  have sY4 : Y4.heap.size = w4.heap.size := by have := congrArg (fun W => W.heap.size) hY4; simpa using this.symm
  have bY : Below w2.heap.size w2 Y4 := bX2.trans ((b3.mono (by omega)).trans ((oY3.below (by omega) fun i hi e => by omega).trans ((b4.mono (by omega)).trans (oY4.below (by omega) fun i hi e => by omega))))
  have hx0 : X2.cell? ⟨w2.heap.size, 0, none⟩ = some (.slice An n cn) := cell_of_row _ _ 0 _ _ _ r2
  have h31 : w3.cell? ⟨w2.heap.size, 1, none⟩ = some (.slice none 0 0) := cell_of_row _ _ 1 _ _ _ r3
  have f31 : w3.frozen? ⟨w2.heap.size, 1, none⟩ = false := frozen_of_row _ _ _ _ _ r3
  have hy0 : Y3.cell? ⟨w2.heap.size, 0, none⟩ = some (.slice An n cn) := cell_of_row _ _ 0 _ _ _ rY3
  have h42 : w4.cell? ⟨w2.heap.size, 2, none⟩ = some (.slice none 0 0) := cell_of_row _ _ 2 _ _ _ r4
  have f42 : w4.frozen? ⟨w2.heap.size, 2, none⟩ = false := frozen_of_row _ _ _ _ _ r4
  have hz0 : Y4.cell? ⟨w2.heap.size, 0, none⟩ = some (.slice An n cn) := cell_of_row _ _ 0 _ _ _ rY4
  have v0 := keep_below z0 bY
  have v1 := keep_below z1 bY
  have CPL := Lib.hid (wsPlaces (c := cn) (SB2.out.gw bY |> fun h => (show SB Y4 An n (numC ns) by have : seI.s * n = n := Nat.one_mul n; rwa [this] at h)) HNS.out HNW.out (by have := HN.out; omega))
  have HX2 := Lib.hid hX2
  have HY3 := Lib.hid hY3
  have HY4 := Lib.hid hY4
  have BY := Lib.hid bY
  have RY4 := Lib.hid rY4
  have SOO := Lib.hid soO
  have SOI := Lib.hid soI
  have HSZ := Lib.hid (show X2.heap.size = w2.heap.size + 1 ∧ X2.heap.size < w3.heap.size ∧ Y3.heap.size = w3.heap.size ∧ Y3.heap.size < w4.heap.size ∧ Y4.heap.size = w4.heap.size from ⟨sX2, l3, sY3, l4, sY4⟩)
  clear hX2 bX2 sX2 r2 so3 b3 l3 r3 hY3 rY3 oY3 soY3 sY3 so4 b4 l4 r4 hY4 rY4 oY4 soO soI sY4 bY z0 z1
  rw [HX2.out]
  go_upto_region 3 with fail
  rw [HY3.out]
  go_upto_region 4 with fail
  rw [HY4.out]
  go_upto_region 6 with (first
    | (go_at_call 42; go_loud (refine CPL.out.mono ?_; rintro e w5 ⟨r5, rfl, m5, g5, b5⟩; have M5 := Lib.hid m5; have G5 := Lib.hid g5; have B5 := Lib.hid b5; have CD5 := Lib.hid (CD.out w5 (B2.out.trans ((BY.out.mono B2.out.size).trans (b5.mono (by have := B2.out.size; have := BY.out.size; omega))))); have u0 := keep_below v0 b5; have u1 := keep_below v1 b5; clear m5 b5 g5))
    | (go_at_call 35; go_loud (refine CD5.out.mono ?_; rintro e w6 ⟨v6, rfl, s6, b6⟩; have S6 := Lib.hid s6; have hf6 := s6.form; obtain ⟨dA, dc, rfl, hsb6, hdc, hdm, hdb⟩ := hf6; have B6 := Lib.hid b6; have DS := Lib.hid hsb6; have DB := Lib.hid hdb; clear s6 b6 hsb6 hdb hdc hdm)))
  have hsz := HSZ.out
  have hb2 := B2.out.size
  have hby := BY.out.size
  have hb5 := B5.out.size
  have hb6 := B6.out.size
  have bY6 : Below Y4.heap.size Y4 w6 := below_next B5.out B6.out
  have NB0 := Lib.hid (show NetB w6 w2.heap.size X2.heap.size Y3.heap.size w6.heap.size n An cn ns (List.replicate n (.slice none 0 0)) (List.replicate n (.slice none 0 0)) (LOf (edgesP ns (GR.take 0)) n) (LIf (edgesP ns (GR.take 0)) n) from {
    row := (bY6.block _ (by omega)).trans RY4.out
    nb := by
      have h1 := (SB2.out.gw BY.out).gw bY6
      have : seI.s * n = n := Nat.one_mul n
      rwa [this] at h1
    nl := HNS.out
    nc := NC.out
    nA := fun ad e => by
      have h3 := S2.out.own.lt
      subst e
      rcases S2.out.own.2 with ⟨hv, -⟩ | ⟨g', cap', cur', hv, -⟩
      · cases hv
      · have e2 : ad = ⟨g', 0, none⟩ := by simpa using (Value.slice.inj hv).1
        subst e2
        have := h3 g' rfl
        dsimp only
        omega
    so := SOO.out.below bY6
    si := SOI.out.below bY6
    fam := by
      have h1 := Fam.nil w6.heap.size w6 (n + n)
      have e1 : LOf (edgesP ns (GR.take 0)) n = List.replicate n [] := by
        apply List.ext_getElem <;> simp [LOf, edgesP, outsP]
      have e2 : LIf (edgesP ns (GR.take 0)) n = List.replicate n [] := by
        apply List.ext_getElem <;> simp [LIf, edgesP, insP]
      rw [e1, e2, List.replicate_append_replicate, List.replicate_append_replicate]
      exact h1
    lo := by simp [LOf]
    lt := by omega
    ne := by omega })
  clear hsz hb2 hby hb5 hb6 bY6 v0 v1 u0 u1
  go_loopw [45] (fun i wr => ∃ (j : Nat) (vo vi : List Value), i = .int .i64 (j : Nat) ∧ j ≤ GR.length ∧ NetB wr w2.heap.size X2.heap.size Y3.heap.size w6.heap.size n An cn ns vo vi (LOf (edgesP ns (GR.take j)) n) (LIf (edgesP ns (GR.take j)) n) ∧ Out (fun k => k = X2.heap.size ∨ k = Y3.heap.size) w6 wr) (fun i _ => GR.length - (intOf i).toNat)
  case atStart => exact ⟨0, _, _, rfl, Nat.zero_le _, NB0.out, Out.refl _ _⟩
  case round =>
    rename World => wr
    obtain ⟨j, vo, vi, rfl, hj, hnb, hout⟩ := hrel
    by_cases hlt : j < GR.length
    · obtain ⟨dd, hx⟩ : ∃ x, GR[j]? = some x := ⟨_, List.getElem?_eq_getElem hlt⟩
      have hDS : SB wr dA (3 * GR.length) (cellsE dpC GR) := ⟨DS.out.len, DS.out.one, fun h0 => by
        obtain ⟨g, q, e, hc⟩ := DS.out.cell h0
        refine ⟨g, q, e, fun j u hj => hout.cell (hc j u hj) fun e2 => ?_⟩
        have h1 := DB.out _ e
        have h2 := HSZ.out
        have h3 := B5.out.size
        dsimp only at e2 h1
        omega⟩
      obtain ⟨g, o, rfl, c0, c1, c2⟩ := DL.at_ hDS hx
      obtain ⟨hm1, hm2, -⟩ := HGM.out dd (List.mem_of_getElem? hx)
      have hf1 := (HMEM.out dd.fr).2 hm1
      have hf2 := (HMEM.out dd.to).2 hm2
      obtain ⟨ra, hra⟩ : ∃ a, ns.idxOf dd.fr = a := ⟨_, rfl⟩
      obtain ⟨rb, hrb⟩ : ∃ a, ns.idxOf dd.to = a := ⟨_, rfl⟩
      have hra2 : ra < n := by rw [← hra, ← HNS.out]; exact List.idxOf_lt_length_of_mem hf1
      have hrb2 : rb < n := by rw [← hrb, ← HNS.out]; exact List.idxOf_lt_length_of_mem hf2
      have HE := Lib.hid (show edgesP ns (GR.take (j + 1)) = edgesP ns (GR.take j) ++ [(ra, rb)] by rw [edges_next hx]; unfold edgeP; rw [hra, hrb])
      obtain ⟨X, hX⟩ : ∃ X, wr.alloc (.cells #[.int .i64 dd.fr, .int .i64 dd.to, .int .i64 dd.kd] 51) = X := ⟨_, rfl⟩
      have bX : Below wr.heap.size wr X := hX ▸ alloc_below11 wr _
      have qX : X.heap[wr.heap.size]? = some (.cells #[.int .i64 dd.fr, .int .i64 dd.to, .int .i64 dd.kd] 51 (0, 0)) := hX ▸ heap_alloc_new wr _
      have d0 : X.cell? ⟨wr.heap.size, 0, none⟩ = some (.int .i64 dd.fr) := cell_of_row _ _ 0 _ _ _ qX
      have d1 : X.cell? ⟨wr.heap.size, 1, none⟩ = some (.int .i64 dd.to) := cell_of_row _ _ 1 _ _ _ qX
      have mX : MapM KN X r5 (plM ns ns.length) := by
        rw [HNS.out]
        refine ((M5.out.block (B6.out.block _ M5.out.lt)).block (hout.block _ (Nat.lt_of_lt_of_le M5.out.lt B6.out.size) fun e => ?_)).block (bX.block _ (Nat.lt_of_lt_of_le (Nat.lt_of_lt_of_le M5.out.lt B6.out.size) hout.size))
        have h1 := G5.out
        have h2 := HSZ.out
        omega
      have lk1 : (Instr.lookup mapII (.map (some r5)) (.int .i64 dd.fr) false).run Tryz.prog X.drew = .ok (.int .i64 (ra : Nat)) X.drew := by
        have := (show MapM KN X.drew r5 (plM ns ns.length) from mX.block rfl).look mapII_und (zeroI X.drew) (x := dd.fr) (HNW.out _ hf1)
        rw [plM_pos HND.out] at this
        unfold posP at this
        rw [if_pos hf1, hra] at this
        exact this
      have lk2 : (Instr.lookup mapII (.map (some r5)) (.int .i64 dd.to) false).run Tryz.prog X.drew = .ok (.int .i64 (rb : Nat)) X.drew := by
        have := (show MapM KN X.drew r5 (plM ns ns.length) from mX.block rfl).look mapII_und (zeroI X.drew) (x := dd.to) (HNW.out _ hf2)
        rw [plM_pos HND.out] at this
        unfold posP at this
        rw [if_pos hf2, hrb] at this
        exact this
      have i1 : (j : Int) < (GR.length : Int) := by omega
      have l1 : (j : Int) ≤ 8192 := by have := HGL.out; omega
      have HLT := Lib.hid hlt
      have HX := Lib.hid hX
      have NX := Lib.hid (hnb.below bX)
      have OX := Lib.hid (hout.then (Out.of_below bX _))
      have HRA := Lib.hid hra2
      have HRB := Lib.hid hrb2
      obtain ⟨df, dt, dk⟩ := dd
      dsimp only at *
      clear hx hDS hm1 hm2 hf1 hf2 hra hrb hra2 hrb2 hX bX qX mX hj hlt hnb hout
      go_upto_region 8 with fail
      rw [HX.out]
      clear c0 c1 c2
      go_region
      clear d0 d1 lk1 lk2
      obtain ⟨Z, hZ⟩ : ∃ Z, X.drew = Z := ⟨_, rfl⟩
      have NZ := Lib.hid (show NetB Z _ _ _ _ _ _ _ _ _ _ _ _ from hZ ▸ NX.out.below ((Below.refl _ _).drew))
      have OZ := Lib.hid (show Out (fun k => k = X2.heap.size ∨ k = Y3.heap.size) w6 Z from hZ ▸ OX.out.drew)
      have HZ := Lib.hid hZ
      clear hZ
      rw [HZ.out]
      obtain ⟨vA, hvA⟩ : ∃ v, vo[ra]? = some v := ⟨_, List.getElem?_eq_getElem (by rw [NZ.out.vol]; exact HRA.out)⟩
      have hLA := LOf_at (E := edgesP ns (GR.take j)) HRA.out
      obtain ⟨LA, hLA2⟩ : ∃ L, outsP (edgesP ns (GR.take j)) ra = L := ⟨_, rfl⟩
      have hlA : LA.length ≤ 8192 := by
        rw [← hLA2]
        refine Nat.le_trans (outsP_len _ _) ?_
        unfold edgesP
        rw [List.length_map, List.length_take]
        have := HGL.out; omega
      have HLLA := Lib.hid hlA
      have HL2A := Lib.hid hLA2
      rw [hLA2] at hLA
      have soA := NZ.out.outL hvA hLA
      obtain ⟨AA, cA, rfl, -⟩ := soA.form
      have cgA := NZ.out.cells.2.1
      have coA := NZ.out.outC hvA
      have bzA : Below Z.heap.size Z (Z.drew.alloc (.cells #[.int .i64 (rb : Int)] 3)) := ((Below.refl _ _).drew).alloc (Nat.le_refl _) _
      have cgA2 : (Z.alloc (.cells #[.int .i64 (rb : Int)] 3)).cell? ⟨w2.heap.size, 1, none⟩ = some (.slice (some ⟨X2.heap.size, 0, none⟩) n n) := keep_below cgA (alloc_below11 _ _)
      have coA2 : (Z.alloc (.cells #[.int .i64 (rb : Int)] 3)).cell? ⟨X2.heap.size, ra, none⟩ = some (.slice AA LA.length cA) := keep_below coA (alloc_below11 _ _)
      have SOXA := Lib.hid (soA.below bzA)
      have SBXA := Lib.hid (sb_int11 Z.drew rb)
      have LAWA := Lib.hid (fun (g : Nat) (cap : Nat) (W : World) h1 h2 h3 => (NZ.out.below bzA).lawO (W' := W) (g := g) (cap := cap) (x := rb) hvA hLA h1 h2 h3)
      have BZA := Lib.hid bzA
      have BSA := Lib.hid (show w6.heap.size ≤ (Z.drew.alloc (.cells #[.int .i64 (rb : Int)] 3)).heap.size from Nat.le_trans NZ.out.lt.2.2.2 bzA.size)
      have iA : (ra : Int) < (n : Int) := by have := HRA.out; omega
      have jA : (0 : Int) ≤ (ra : Int) := by omega
      clear hvA hLA hLA2 hlA soA bzA
      go_upto_region 9 with fail
      go_cut [9] (fun v9 wx => v9 = .int .i64 (rb : Nat) ∧ ∃ vo', NetB wx w2.heap.size X2.heap.size Y3.heap.size w6.heap.size n An cn ns vo' vi ((LOf (edgesP ns (GR.take j)) n).set ra (LA ++ [rb])) (LIf (edgesP ns (GR.take j)) n) ∧ Out (fun k => k = X2.heap.size ∨ k = Y3.heap.size ∨ w6.heap.size ≤ k) Z wx)
      case first =>
        go_region_law
          ((refine so_stepL seI_ok (by rfl) (.tmp 68) (.tmp 70) (by rfl) _ (by rfl) SOXA.out Z.heap.size 1 [.int .i64 (rb : Int)] (by rfl) SBXA.out (by have := HLLA.out; simp only [seI]; omega) (by have := HLLA.out; simp only [maxLen]; omega) BSA.out ?_; intro gA9 capA9 wA9 o9 hg9 hl9; have L9 := LAWA.out gA9 capA9 wA9 o9 hg9 hl9; obtain ⟨k91, k92, k93, nb9, ou9⟩ := L9; have NBA9 := Lib.hid nb9; have OUA9 := Lib.hid ou9; clear o9 hg9 hl9 nb9 ou9))
        all_goals (go_wp2_with fail; go_meet; exact ⟨rfl, _, NBA9.out, (Out.of_below BZA.out _).then OUA9.out⟩)
      case rest =>
        obtain ⟨rfl, vo', hnb, hou⟩ := hcut
        rename World => Y
        clear cgA coA cgA2 coA2 iA jA
        have NY := Lib.hid hnb
        have OY := Lib.hid hou
        clear hnb hou
        obtain ⟨vB, hvB⟩ : ∃ v, vi[rb]? = some v := ⟨_, List.getElem?_eq_getElem (by rw [NY.out.vil]; exact HRB.out)⟩
        have hLB := LIf_at (E := edgesP ns (GR.take j)) HRB.out
        obtain ⟨LB, hLB2⟩ : ∃ L, insP (edgesP ns (GR.take j)) rb = L := ⟨_, rfl⟩
        have hlB : LB.length ≤ 8192 := by
          rw [← hLB2]
          refine Nat.le_trans (insP_len _ _) ?_
          unfold edgesP
          rw [List.length_map, List.length_take]
          have := HGL.out; omega
        have HLLB := Lib.hid hlB
        have HL2B := Lib.hid hLB2
        rw [hLB2] at hLB
        have soB := NY.out.inL hvB hLB
        obtain ⟨AB, cB, rfl, -⟩ := soB.form
        have cgB := NY.out.cells.2.2
        have coB := NY.out.inC hvB
        have bzB : Below Y.heap.size Y (Y.drew.alloc (.cells #[.int .i64 (ra : Int)] 3)) := ((Below.refl _ _).drew).alloc (Nat.le_refl _) _
        have cgB2 : (Y.alloc (.cells #[.int .i64 (ra : Int)] 3)).cell? ⟨w2.heap.size, 2, none⟩ = some (.slice (some ⟨Y3.heap.size, 0, none⟩) n n) := keep_below cgB (alloc_below11 _ _)
        have coB2 : (Y.alloc (.cells #[.int .i64 (ra : Int)] 3)).cell? ⟨Y3.heap.size, rb, none⟩ = some (.slice AB LB.length cB) := keep_below coB (alloc_below11 _ _)
        have SOXB := Lib.hid (soB.below bzB)
        have SBXB := Lib.hid (sb_int11 Y.drew ra)
        have LAWB := Lib.hid (fun (g : Nat) (cap : Nat) (W : World) h1 h2 h3 => (NY.out.below bzB).lawI (W' := W) (g := g) (cap := cap) (x := ra) hvB hLB h1 h2 h3)
        have BZB := Lib.hid bzB
        have BSB := Lib.hid (show w6.heap.size ≤ (Y.drew.alloc (.cells #[.int .i64 (ra : Int)] 3)).heap.size from Nat.le_trans NY.out.lt.2.2.2 bzB.size)
        have iB : (rb : Int) < (n : Int) := by have := HRB.out; omega
        have jB : (0 : Int) ≤ (rb : Int) := by omega
        clear hvB hLB hLB2 hlB soB bzB
        go_upto_region 10 with fail
        go_region_law
          ((refine so_stepL seI_ok (by rfl) (.tmp 84) (.tmp 86) (by rfl) _ (by rfl) SOXB.out Y.heap.size 1 [.int .i64 (ra : Int)] (by rfl) SBXB.out (by have := HLLB.out; simp only [seI]; omega) (by have := HLLB.out; simp only [maxLen]; omega) BSB.out ?_; intro gB9 capB9 wB9 o9 hg9 hl9; have L9 := LAWB.out gB9 capB9 wB9 o9 hg9 hl9; obtain ⟨k91, k92, k93, nb9, ou9⟩ := L9; have NBB9 := Lib.hid nb9; have OUB9 := Lib.hid ou9; clear o9 hg9 hl9 nb9 ou9))
        all_goals clear cgB coB cgB2 coB2 iB jB
        all_goals obtain ⟨Y2, hY2⟩ : ∃ Y, wB9.setCell ⟨Y3.heap.size, rb, none⟩ (.slice (some ⟨gB9, 0, none⟩) (LB.length + 1) capB9) = Y := ⟨_, rfl⟩
        all_goals
          (rw [hY2] at NBB9 OUB9
           have NE := Lib.hid (show NetB Y2 w2.heap.size X2.heap.size Y3.heap.size w6.heap.size n An cn ns vo' _ (LOf (edgesP ns (GR.take (j + 1))) n) (LIf (edgesP ns (GR.take (j + 1))) n) by
             rw [HE.out, LOf_next, LIf_next, HL2A.out, HL2B.out]
             exact NBB9.out)
           have OE := Lib.hid (show Out (fun k => k = X2.heap.size ∨ k = Y3.heap.size) w6 Y2 from (((OZ.out.mono (F' := fun k => k = X2.heap.size ∨ k = Y3.heap.size ∨ w6.heap.size ≤ k) fun i _ e => e.elim .inl fun e => .inr (.inl e)).then OY.out).then ((Out.of_below BZB.out _).then OUB9.out)).mono fun i hi e => by omega)
           have HY2 := Lib.hid hY2
           clear hY2 NBB9 OUB9
           rw [HY2.out]
           go_wp2
           go_roundw
           case rel => exact ⟨j + 1, _, _, by go_num, HLT.out, NE.out, OE.out⟩
           case measure => have := HLT.out; simp [intOf]; omega)
    · obtain rfl : j = GR.length := by omega
      have i1 : ¬ (GR.length : Int) < (GR.length : Int) := by omega
      have HNB := Lib.hid hnb
      have HO := Lib.hid hout
      rw [List.take_length] at HNB
      clear hj hlt hnb hout
      go_wp2
      go_ret
      have h1 := HSZ.out
      have h2 := B2.out.size
      have h3 := BY.out.size
      have h4 := B5.out.size
      have h5 := B6.out.size
      have h6 := B1.out.size
      have hAn : ∀ ad, An = some ad → w.heap.size ≤ ad.block := fun ad e => by
        have h3 := S2.out.own.lt
        subst e
        rcases S2.out.own.2 with ⟨hv, -⟩ | ⟨g', cap', cur', hv, -⟩
        · cases hv
        · have e2 : ad = ⟨g', 0, none⟩ := by simpa using (Value.slice.inj hv).1
          subst e2
          have := (h3 g' rfl).1
          dsimp only
          omega
      exact ⟨_, rfl, ⟨_, _, _, _, _, _, _, HNB.out, by omega, by omega, by omega, hAn⟩, B1.out.trans ((B2.out.trans ((BY.out.mono h2).trans ((B5.out.mono (by omega)).trans ((B6.out.mono (by omega)).trans (HO.out.below (by omega) fun i hi e => by omega))))).mono h6)⟩
end
end Go.Proofs.YtnpeankmmojebaaGreatDoor
