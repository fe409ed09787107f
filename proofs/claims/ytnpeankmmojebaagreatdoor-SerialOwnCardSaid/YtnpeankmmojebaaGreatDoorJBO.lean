import Derived.Test.YtnpeankmmojebaaGreatDoorJBN
import Derived.Deep.RegionHeld3
import Derived.Test.YtnpeankmmojebaaGreatDoorJBB
import Derived.Test.YtnpeankmmojebaaGreatDoorJAB
import Derived.OwnWalkIn
/- Layer 11: the reference's more, whole; Orders. -/
set_option linter.unusedVariables false
namespace Go.Proofs.YtnpeankmmojebaaGreatDoor
set_option maxRecDepth 100000
set_option maxRecDepth 100000
open Go.RowKit

section
variable {w0 : World} {A B gA : Option Addr} {n c m d gc q most : Nat} {cs : List Int} {ac : List Ac}
theorem wrMore (h0 : Hist w0 A n c B m d cs ac) (hR : Right cs ac) (hg : SB w0 gA (3 * (graphP cs ac).length) (cellsE dpC (graphP cs ac))) (hq : (graphP cs ac).length = q) (h64 : most ≤ 256) : ∀ f, MoreC w0 A n c B m d gA gc q cs ac most f
  | 0 => fun w K oA oc k F vF hb hL hK hf hs hF hm hd => by
    have hn : n ≤ 4096 := by rw [← h0.cl]; exact hR.lc
    rcases Nat.lt_or_ge F.length most with hlt | hge
    · have e : k = n := by omega
      subst e
      exact wrMoreFull h0 hn hb hK hs hF hlt h64
    · exact wrMoreEnough h0 hb hF (Nat.le_antisymm hm hge) h64
  | f + 1 => fun w K oA oc k F vF hb hL hK hf hs hF hm hd => by
    rcases Nat.lt_or_ge F.length most with hlt | hge
    · exact wrMoreStep h0 hR hg hq h64 (wrMore h0 hR hg hq h64 f) hb hL hK hf hs hF hlt hd
    · exact wrMoreEnough h0 hb hF (Nat.le_antisymm hm hge) h64
end
theorem FL.lower {base b0 : Nat} {w : World} {v : Value} {F : List (List Int)} (h : FL base w v F) (hb : b0 ≤ base) : FL b0 w v F := by
  obtain ⟨vs, h1, h2⟩ := h
  exact ⟨vs, h1.lower hb, h2⟩
section
variable {w : World} {A B : Option Addr} {n c m d most : Nat} {cs : List Int} {ac : List Ac} {M : List Nat}
/-- All orders of a right history, as numbers. -/
def allN (cs : List Int) (ac : List Ac) (n : Nat) : List (List Int) := (allP (edgeH cs ac) n n []).map (numsP cs)
set_option maxHeartbeats 64000000 in
theorem wrOrders (h : Hist w A n c B m d cs ac) (hR : Right cs ac) (hM : FillP (edgeH cs ac) n [] M) (h64 : most ≤ 256) :
    Calls Tryz.prog 10 #[histV A n c B m d, .int .i64 (most : Nat)] w fun e w' => ∃ v, e = .returned v ∧ FL w.heap.size w' v (if M.length = n then (allN cs ac n).take most else []) ∧ Below w.heap.size w w' := by
  obtain ⟨W0, hB⟩ := h.box
  have HB := Lib.hid hB
  have HW := Lib.hid hB.eq
  have x0 := hB.x0
  have x1 := hB.x1
  have hcl : cs.length = n := h.cl
  have hn : n ≤ 4096 := by rw [← hcl]; exact hR.lc
  have hm : m ≤ 4096 := by rw [← h.al]; exact hR.la
  have CO := Lib.hid (wrOrder hB.h hR hM)
  have CG := Lib.hid (fun W (hW : Below W0.heap.size W0 W) => wrGraph (hB.h.gw hW) hn hm)
  have CM := Lib.hid (fun W (hW : Below W0.heap.size W0 W) (gA : Option Addr) (gc : Nat) (hg : SB W gA (3 * (graphP cs ac).length) (cellsE dpC (graphP cs ac))) => wrMore (gc := gc) (hB.h.gw hW) hR hg rfl h64 n W [] none 0 0 [] (.slice none 0 0) (Below.refl _ _) .nil rfl (by omega) (SB.empty _ _) (FL.nil _ _) (Nat.zero_le _) (fun h => absurd h (Nat.lt_irrefl _)))
  unfold histV at CO CG CM ⊢
  clear h hB hR hcl hn hm hM
  by_cases hMl : M.length = n
  · rw [decide_eq_true hMl] at CO
    rw [if_pos hMl]
    clear hMl
    go_enter Tryz.func10, Tryz.ntmps10
    go_upto_region 1 with fail
    rw [HW.out]
    go_upto_region 4 with (go_at_call 8; go_loud (refine CO.out.mono ?_; rintro e w1 ⟨v1, rfl, s1, b1⟩; have B1 := Lib.hid b1; have y0 := keep_below x0 b1; have y1 := keep_below x1 b1; clear b1 s1))
    clear x0 x1
    have S0 : w1.cell? ⟨w.heap.size, 0, none⟩ = some (.slice A n c) ∧ w1.cell? ⟨w.heap.size, 1, none⟩ = some (.slice B m d) := ⟨y0, y1⟩
    have BD := Lib.hid (B1.out.trans ((below_drew11 w1).mono B1.out.size))
    have S2 : ∀ W : World, Below w1.heap.size w1.drew W → W.cell? ⟨w.heap.size, 0, none⟩ = some (.slice A n c) ∧ W.cell? ⟨w.heap.size, 1, none⟩ = some (.slice B m d) := fun W hW => ⟨keep_below (w := w1.drew) y0 hW, keep_below (w := w1.drew) y1 hW⟩
    go_region_held3 (fun W => W.cell? ⟨w.heap.size, 0, none⟩ = some (.slice A n c) ∧ W.cell? ⟨w.heap.size, 1, none⟩ = some (.slice B m d)) (first | exact S0 | exact S2 _ B5.out | exact S2 _ B2.out) (first
      | (go_at_call 20; go_loud (refine (CG.out w1.drew BD.out).mono ?_; rintro e w2 ⟨v2, rfl, dl2, b2⟩; obtain ⟨gA, gc, rfl, hg, -, -⟩ := dl2; have B2 := Lib.hid (show Below w1.heap.size w1.drew w2 from b2); have HG := Lib.hid hg; have B3 := Lib.hid (BD.out.trans (b2.mono BD.out.size)); clear b2 hg))
      | (go_at_call 31; go_loud (refine (CM.out w2 B3.out gA gc HG.out).mono ?_; rintro e w3 ⟨v3, rfl, f3, o3, q3⟩; have F3 := Lib.hid f3; have B5 := Lib.hid (show Below w1.heap.size w1.drew w3 from B2.out.trans ((o3.below (Nat.le_refl _) (fun i hi e => by cases e)).mono B2.out.size)); have B4 := Lib.hid (B3.out.trans ((o3.below (Nat.le_refl _) (fun i hi e => by cases e)).mono B3.out.size)); clear f3 o3 q3)))
    all_goals go_wp2
    all_goals go_ret
    all_goals exact ⟨_, rfl, (show FL w2.heap.size w3 v3 ((allN cs ac n).take most) from F3.out).lower (Nat.le_trans HB.out.below.size B3.out.size), below_next HB.out.below B4.out⟩
  · rw [decide_eq_false hMl] at CO
    rw [if_neg hMl]
    clear hMl CG CM
    go_enter Tryz.func10, Tryz.ntmps10
    go_upto_region 1 with fail
    rw [HW.out]
    go_wp2_with (go_at_call 8; go_loud (refine CO.out.mono ?_; rintro e w1 ⟨v1, rfl, s1, b1⟩; have B1 := Lib.hid b1; clear b1 s1))
    go_ret
    exact ⟨_, rfl, FL.nil _ _, below_next HB.out.below B1.out⟩
end
end Go.Proofs.YtnpeankmmojebaaGreatDoor

/- Layer 11: the program's Orders: the function value that it makes, and what that value promises. -/
namespace Go.Proofs.YtnpeankmmojebaaGreatDoor
set_option maxRecDepth 100000
set_option maxRecDepth 100000
open Go.RowKit Go.Shelf

attribute [local go_sem] Oper.semAt_some

theorem YieldAt.anyDepthO {m : Nat} (m' : Nat) {P : Program} {l : Nat} {args : Array Value} {W : World} {R : Ending → World → Prop} (h : YieldAt Fence.wide m P l args W R) : YieldAt Fence.wide m' P l args W R := by
  obtain ⟨fn, tmps, assign, body, hy, hR⟩ := h
  exact ⟨fn, tmps, assign, body, hy, ⟨hR.1, fun c cs _ => hR.2 c cs (room_wide _)⟩⟩
/-- What is handed on: an order, the list that says it. -/
def encO (x : List Int × Value) : Array Value := #[x.2]
def okO (X : List (List Int)) (n : Nat) (pre : List (List Int × Value)) (x : List Int × Value) (W : World) : Prop := X[pre.length]? = some x.1 ∧ ∃ A c, x.2 = .slice A n c ∧ SB W A n (numC x.1)
/-- What a round may touch: the variable p, and blocks from N on that are no cells. -/
def TouchO (p N : Nat) (A : World) (k : Nat) : Prop := k = p ∨ N ≤ k ∧ ∃ o, A.heap[k]? = some o ∧ o.isCells = false
def keepO (p N : Nat) (A B : World) : Prop := Out (TouchO p N A) A B
section
variable {p N : Nat} {A B C : World}
theorem keepO_trans (h : keepO p N A B) (k : keepO p N B C) : keepO p N A C := Out.trans h k fun i hi e => by
  rcases e with e | ⟨h1, o, h2, h3⟩
  · exact .inl e
  · refine Classical.byContradiction fun hno => ?_
    have hb := h.block i hi hno
    rw [h2] at hb
    exact hno (.inr ⟨h1, o, hb.symm, h3⟩)
theorem keepO_below (hb : Below A.heap.size A B) : keepO p N A B := Out.of_below hb _
theorem keepO_turn {l : Nat} {o : Obj} (o' : Obj) (hl : N ≤ l) (ho : A.heap[l]? = some o) (hc : o.isCells = false) : keepO p N A (A.putObj l o') :=
  ⟨rfl, rfl, rfl, by simp [World.putObj], fun k _ hn => World.putObj_heap_other (fun e => hn (by subst e; exact .inr ⟨hl, o, ho, hc⟩))⟩
end
section
variable {p N gw gb b1 b2 n : Nat} {ns : List Int} {E : Eg} {L : List Nat} {A B : World}
theorem NetW.up (h : NetW A gb b1 n ns E) (hb : b1 ≤ b2) : NetW A gb b2 n ns E := by
  obtain ⟨go, gi, base, An, cn, vo, vi, k, h1, h2⟩ := h
  exact ⟨go, gi, base, An, cn, vo, vi, k, Nat.le_trans h1 hb, fun i v q hv hq => Nat.lt_of_lt_of_le (h2 i v q hv hq) hb⟩
theorem NetW.keptO (h : NetW A gb b1 n ns E) (hk : keepO p N A B) (hp : b1 ≤ p) (hN : b1 ≤ N) : NetW B gb b1 n ns E := by
  have h2 : Out (fun k => b1 ≤ k) A B := Out.mono hk fun i _ e => e.elim (fun q => by omega) fun q => Nat.le_trans hN q.1
  exact h.out h2
theorem WkAt.keptO (h : WkAt A gw gb b2 n ns E L) (hn : NetW B gb b1 n ns E) (hb : b1 ≤ b2) (hk : keepO p N A B) (hp : p < b2) : WkAt B gw gb b2 n ns E L := by
  obtain ⟨gt, gr, vl, hM, -⟩ := h
  have key : ∀ k cs t fr, b2 ≤ k → A.heap[k]? = some (.cells cs t fr) → ¬ TouchO p N A k := fun k cs t fr h1 h2 e => by
    rcases e with e | ⟨-, o, h3, h4⟩
    · omega
    · rw [h2] at h3; cases h3; cases h4
  have own : ∀ (E : SEl) (v : Value) (m : Nat) (vs : List Value) k, SO E b2 A v m vs → v.ownBlock = some k → ¬ TouchO p N A k := fun E v m vs k h1 h2 => by
    rcases h1.own.2 with ⟨e, -⟩ | ⟨g, cap, cur, e, h3, h4, -⟩
    · rw [e] at h2; cases h2
    · rw [e] at h2
      have e2 : g = k := by simpa [Value.ownBlock] using h2
      subst e2
      exact key g cur _ _ h3 h4
  obtain ⟨ws, k1, k2⟩ := hM.ready
  exact ⟨gt, gr, vl, hM.out hk (key gw _ _ _ hM.lo hM.row) (own _ _ _ _ gt hM.waits rfl) (own _ _ _ _ gr k2 rfl) (fun k hk => own _ _ _ _ k hM.laid hk), hn.up hb⟩
end
section
variable {w : World} {A B : Option Addr} {n c m d : Nat} {cs : List Int} {ac : List Ac}
set_option maxHeartbeats 16000000 in
theorem wsOrders (h : Hist w A n c B m d cs ac) (hR : Right cs ac) :
    Calls Tryz.prog 11 #[histV A n c B m d] w fun e w' => ∃ bx gb, e = .returned (.func (.func 33) #[] #[.pointer (some ⟨bx, 0, none⟩)]) ∧ Vx w' bx (.pointer (some ⟨gb, 0, none⟩)) 62 ∧ NetAt w' gb n (riseP cs) (edgeH cs ac) ∧ Below w.heap.size w w' := by
  obtain ⟨W0, hB⟩ := h.box
  have HB := Lib.hid hB
  have HW := Lib.hid hB.eq
  have x0 := hB.x0
  have x1 := hB.x1
  have CC := Lib.hid (wsCheck hB.h)
  rw [errH_ok hR] at CC
  have HR := Lib.hid hR
  unfold histV at CC ⊢
  clear h hB hR
  go_enter Tryz.func11, Tryz.ntmps11
  go_upto_region 1 with fail
  rw [HW.out]
  go_upto_region 3 with (go_at_call 22; go_loud (refine CC.out.mono ?_; rintro e w1 ⟨rfl, b1⟩; have B1 := Lib.hid b1; have CN := Lib.hid (wsNewNet (HB.out.h.gw b1) HR.out); have y0 := keep_below x0 b1; have y1 := keep_below x1 b1; clear b1))
  unfold histV at CN
  go_upto_region 4 with (go_at_call 26; go_loud (refine CN.out.mono ?_; rintro e w2 ⟨gb, rfl, na, b2⟩; have B2 := Lib.hid b2; have NA := Lib.hid na; clear na b2))
  clear x0 x1
  obtain ⟨W3, hW3⟩ : ∃ W, w2.alloc (.cells #[.pointer (some ⟨gb, 0, none⟩)] 62) = W := ⟨_, rfl⟩
  have HW3 := Lib.hid hW3
  have b3 : Below w2.heap.size w2 W3 := hW3 ▸ alloc_below11 w2 _
  have V3 := Lib.hid (show Vx W3 w2.heap.size (.pointer (some ⟨gb, 0, none⟩)) 62 from hW3 ▸ Vx.new w2 _ _)
  have NA3 := Lib.hid (NA.out.below b3)
  have B3 := Lib.hid b3
  clear hW3 b3
  go_wp2
  rw [HW3.out]
  go_ret
  exact ⟨w2.heap.size, gb, rfl, V3.out, NA3.out, below_next (below_next (below_next HB.out.below B1.out) B2.out) B3.out⟩
end
end Go.Proofs.YtnpeankmmojebaaGreatDoor

/- Layer 11: what the iterator over all orders promises. -/
namespace Go.Proofs.YtnpeankmmojebaaGreatDoor
set_option maxRecDepth 100000
set_option maxRecDepth 100000
open Go.RowKit Go.Shelf

attribute [local go_sem] Oper.semAt_some

theorem NetW.at_ {W : World} {gb b n : Nat} {ns : List Int} {E : Eg} (h : NetW W gb b n ns E) : NetAt W gb n ns E := by
  obtain ⟨go, gi, base, An, cn, vo, vi, k, -⟩ := h
  exact ⟨go, gi, base, An, cn, vo, vi, k⟩
section
variable {cs : List Int} {ac : List Ac} {n : Nat} {M : List Nat}
set_option maxHeartbeats 64000000 in
theorem hands_orders (nn bx gb p b1 : Nat) (V : World) (hR : Right cs ac) (hcl : cs.length = n) (hbx : Vx V bx (.pointer (some ⟨gb, 0, none⟩)) 62) (hnw : NetW V gb b1 n (riseP cs) (edgeH cs ac)) (hb1 : b1 ≤ p) (hp : p < V.heap.size) (hT : TzAt V) (htp : 0 ≠ p) (hM : FillP (edgeH cs ac) n [] M) (hMl : M.length = n) :
    HandsB Fence.wide nn Tryz.prog 33 #[.pointer (some ⟨bx, 0, none⟩)] encO (okO (allN cs ac n) n) (keepO p V.heap.size) (fun xs => xs.map (·.1) = allN cs ac n) (fun _ => True) V := by
  intro l J Jx W hW hJ hJx hTol hY h0
  have YY := Lib.hid (fun pre x X (hX : J pre X) (hp : okO (allN cs ac n) n pre x X) => YieldAt.anyDepthO 8 (hY pre x X hX hp))
  have HJ := Lib.hid hJ
  have HTO := Lib.hid hTol
  have hn : n ≤ 4096 := by rw [← hcl]; exact hR.lc
  have hE : EdOk (edgeH cs ac) n := by have := hR.edOk; rw [hcl] at this; exact this
  have HN := Lib.hid hn
  have HE := Lib.hid hE
  have HL := Lib.hid (edge_len hR)
  have HM := Lib.hid hM
  have HY0 := Lib.hid (hM.lay .nil)
  have HA := Lib.hid (Ends11.of_full hE (hM.lay .nil) hMl)
  have cb := (hbx.gw hW).c
  have NW := Lib.hid (hnw.below hW)
  have TW := Lib.hid (hT.below hW)
  have HSZ := Lib.hid (show V.heap.size ≤ W.heap.size from hW.size)
  have HB1 := Lib.hid (And.intro hb1 hp)
  have HTP := Lib.hid (And.intro htp hT.lt)
  have J0 := Lib.hid h0
  have FST := Lib.hid (show allP (edgeH cs ac) n n [] = M :: remP (edgeH cs ac) n M from by
    have := hM.first .nil hMl
    rw [remP_nil, List.append_nil] at this
    exact this)
  have HML := Lib.hid hMl
  have CN := Lib.hid (wsNewWalk (E := edgeH cs ac) (hnw.below hW).at_ (edge_len hR) hn)
  clear hW hJ hJx hTol hY h0 hbx hnw hb1 hp hT htp hM hMl hn hE hR hcl
  refine callsIn_wide.2 ?_
  simp only [List.append_toArray, List.cons_append, List.nil_append]
  go_enter Tryz.func33, Tryz.ntmps33
  go_upto_region 1 with (go_at_call 25; go_loud (refine CN.out.mono ?_; rintro e w1 ⟨gw, rfl, k1, bb1⟩; have B1 := Lib.hid bb1; have CF := Lib.hid (wsFill k1 HE.out HL.out HN.out (TW.out.below bb1) (Nat.lt_of_lt_of_le HTP.out.2 HSZ.out) .nil); clear k1 bb1))
  clear cb
  go_upto_region 2 with (go_at_call 27; go_loud (refine CF.out.mono ?_; rintro e w2 ⟨M2, f2, k2, o2, rfl⟩; obtain rfl := f2.det HM.out; have K2 := Lib.hid k2; have O2 := Lib.hid o2; clear f2 k2 o2; rw [decide_eq_true HML.out]))
  have J2 := Lib.hid (HTO.out [] w1 w2 (HJ.out [] W w1 J0.out B1.out) O2.out)
  have N2 := Lib.hid ((NW.out.below B1.out).out (Out.mono O2.out fun i _ e => Nat.le_trans (Nat.le_trans HB1.out.1 (Nat.le_of_lt HB1.out.2)) (Nat.le_trans HSZ.out e)))
  have T2 := Lib.hid ((TW.out.below B1.out).out O2.out (fun e => by have e : W.heap.size ≤ 0 := e; have := HTP.out.2; have := HSZ.out; omega))
  have Z2 := Lib.hid (show W.heap.size ≤ w2.heap.size from Nat.le_trans B1.out.size O2.out.size)
  go_loopg [4] ((allP (edgeH cs ac) n n []).length + 1) (fun gk isv wr => ∃ (pre : List (List Int × Value)) (D Q : List (List Nat)), isv = .bool (!Q.isEmpty) ∧ J pre wr ∧ NetW wr gb b1 n (riseP cs) (edgeH cs ac) ∧ TzAt wr ∧ allP (edgeH cs ac) n n [] = D ++ Q ∧ pre.map (·.1) = D.map (numsP cs) ∧ pre.length = D.length ∧ (∀ M' Q', Q = M' :: Q' → Q' = remP (edgeH cs ac) n M' ∧ LayP (edgeH cs ac) n M' ∧ M'.length = n ∧ WkAt wr gw gb W.heap.size n (riseP cs) (edgeH cs ac) M') ∧ W.heap.size ≤ wr.heap.size ∧ gk = Q.length + 1)
  case atStart =>
    refine ⟨[], [], M2 :: remP (edgeH cs ac) n M2, rfl, J2.out, N2.out, T2.out, FST.out, rfl, rfl, fun M' Q' e => ?_, Z2.out, by rw [FST.out]⟩
    injection e with e1 e2
    subst e1 e2
    exact ⟨rfl, HY0.out, HML.out, K2.out⟩
  case round =>
    rename World => wr
    obtain ⟨pre, D, Q, rfl, hj, hnw, htz, hall, hmap, hlen, hq, hsz, hgk⟩ := hrel
    cases Q with
    | nil =>
      have FIN := Lib.hid (show pre.map (·.1) = allN cs ac n by unfold allN; rw [hall, List.append_nil]; exact hmap)
      have JJ := Lib.hid hj
      clear hj hnw htz hall hmap hlen hq hsz hgk
      go_wp2
      go_end0
      exact ⟨⟨_, rfl⟩, .inl ⟨_, FIN.out, JJ.out⟩⟩
    | cons M' Q' =>
      obtain ⟨q1, q2, q3, q4⟩ := hq M' Q' rfl
      have OKX := Lib.hid (show (allN cs ac n)[pre.length]? = some (numsP cs M') by
        unfold allN
        rw [hall, hlen, List.map_append, List.getElem?_append_right (by simp), List.length_map, Nat.sub_self]; rfl)
      have HNL := Lib.hid (show (numsP cs M').length = n by simp [numsP, q3])
      have CO := Lib.hid (wsOrd q4 HN.out q2)
      have JJ := Lib.hid hj
      have NN := Lib.hid hnw
      have TT := Lib.hid htz
      have KK := Lib.hid q4
      have HQ1 := Lib.hid q1
      have HQ2 := Lib.hid (And.intro q2 q3)
      have HALL := Lib.hid hall
      have HMAP := Lib.hid (And.intro hmap hlen)
      have HZ := Lib.hid hsz
      have HGK := Lib.hid hgk
      clear hj hnw htz hall hmap hlen hq hsz hgk q1 q2 q3 q4
      go_upto_region 4 with fail
      refine (wpIn_wide (n := 9)).1 ?_
      gi_wp2_with (refine ⟨trivial, ?_⟩; gi_at_call 28; go_loud (refine (callsIn_wide.2 CO.out).mono ?_; rintro e w3 ⟨v3, rfl, s3, b3⟩; have B3 := Lib.hid b3; have J3 := Lib.hid (HJ.out pre wr w3 JJ.out b3); have S3 := Lib.hid s3; obtain ⟨fn, tmps, assign, body, hy, hR⟩ := YY.out pre (numsP cs M', v3) w3 J3.out ⟨OKX.out, by (obtain ⟨A3, c3, e3, h3, -⟩ := s3.form; exact ⟨A3, c3, by rw [e3, HQ2.out.2], by (have e4 : seI.s * M'.length = n := (Nat.one_mul _).trans HQ2.out.2; rw [e4] at h3; exact h3)⟩)⟩; have HRR := Lib.hid hR; unfold encO at hy; dsimp only at hy; clear hR b3 s3))
      refine HRR.out.mono ?_
      rintro e W4 hb
      have HB2 := Lib.hid hb
      clear hb HRR
      obtain ⟨rfl, hj, hk⟩ | ⟨rfl, hx⟩ := HB2.out
      · have J4 := Lib.hid hj
        have N4 := Lib.hid (NetW.keptO (NN.out.below B3.out) hk HB1.out.1 (Nat.le_trans HB1.out.1 (Nat.le_of_lt HB1.out.2)))
        have K4 := Lib.hid (WkAt.keptO (KK.out.below B3.out) N4.out (Nat.le_trans (Nat.le_trans HB1.out.1 (Nat.le_of_lt HB1.out.2)) HSZ.out) hk (Nat.lt_of_lt_of_le HB1.out.2 HSZ.out))
        have T4 := Lib.hid (TzAt.out (TT.out.below B3.out) hk (fun e => e.elim HTP.out.1 fun q => absurd q.1 (Nat.not_le_of_lt HTP.out.2)))
        have Z4 := Lib.hid (show W.heap.size ≤ W4.heap.size from Nat.le_trans HZ.out (Nat.le_trans B3.out.size hk.size))
        have CX := Lib.hid (wsNxt K4.out HE.out HL.out HN.out T4.out (Nat.lt_of_lt_of_le HTP.out.2 HSZ.out) HQ2.out.1 HA.out)
        clear hj hk HB2 hy
        gi_wp2
        go_wp2_with (go_at_call 34; go_loud (refine CX.out.mono ?_; rintro e w5 ⟨rfl, k5, o5⟩; have K5 := Lib.hid k5; have O5 := Lib.hid o5; clear k5 o5))
        go_roundg (gk - 1)
        case measure => have := HGK.out; omega
        case rel =>
          refine ⟨pre ++ [(numsP cs M', v3)], D ++ [M'], Q', by rw [HQ1.out], HTO.out _ W4 w5 J4.out O5.out, N4.out.out (Out.mono O5.out fun i _ e => Nat.le_trans (Nat.le_trans HB1.out.1 (Nat.le_of_lt HB1.out.2)) (Nat.le_trans HSZ.out e)), T4.out.out O5.out (fun e => by have e : W.heap.size ≤ 0 := e; have := HTP.out.2; have := HSZ.out; omega), by rw [HALL.out, List.append_assoc]; rfl, by rw [List.map_append, List.map_append, HMAP.out.1]; rfl, by rw [List.length_append, List.length_append, HMAP.out.2]; rfl, fun N Q e => K5.out N Q (by rw [← HQ1.out]; exact e), Nat.le_trans Z4.out O5.out.size, by have := HGK.out; rw [List.length_cons] at this; omega⟩
      · have JX := Lib.hid hx
        clear hx HB2 hy
        gi_wp2
        go_wp2
        refine bodyPost_ret (results_none rfl _ _ _) rfl ?_
        exact ⟨⟨_, rfl⟩, .inr ⟨_, trivial, JX.out⟩⟩
end
end Go.Proofs.YtnpeankmmojebaaGreatDoor
