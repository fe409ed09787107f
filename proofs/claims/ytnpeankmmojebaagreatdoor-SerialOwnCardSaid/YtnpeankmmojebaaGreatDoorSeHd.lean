import Derived.Test.YtnpeankmmojebaaGreatDoorJAC
import Derived.Test.YtnpeankmmojebaaGreatDoorJBO
import Derived.Test.YtnpeankmmojebaaGreatDoorJBP
import Derived.Test.YtnpeankmmojebaaGreatDoorSeNl
/- Layer 11: what the iterator over all orders promises of lists that are the reader's own. -/
set_option linter.unusedVariables false
namespace Go.Proofs.YtnpeankmmojebaaGreatDoor
set_option maxRecDepth 100000
open Go.RowKit Go.Shelf

attribute [local go_sem] Oper.semAt_some

/-- A list that is handed on lies in a block of its own, from N on. -/
def okC (X : List (List Int)) (n N : Nat) (pre : List (List Int × Value)) (x : List Int × Value) (W : World) : Prop := X[pre.length]? = some x.1 ∧ ∃ b, N ≤ b ∧ b ≤ W.heap.size ∧ SO seI b W x.2 n (numC x.1)
/-- What a round may touch: the variable p, the list that it was handed, and blocks from N on that are no cells. -/
def keepC (p N : Nat) (x : List Int × Value) (A B : World) : Prop := Out (fun k => TouchO p N A k ∨ x.2.ownBlock = some k) A B
section
variable {p N : Nat} {x : List Int × Value} {A B C : World}
theorem keepC_trans (h : keepC p N x A B) (k : keepC p N x B C) : keepC p N x A C := Out.trans h k fun i hi e => by
  rcases e with (e | ⟨h1, o, h2, h3⟩) | e
  · exact .inl (.inl e)
  · refine Classical.byContradiction fun hno => ?_
    have hb := h.block i hi hno
    rw [h2] at hb
    exact hno (.inl (.inr ⟨h1, o, hb.symm, h3⟩))
  · exact .inr e
theorem keepC_below (hb : Below A.heap.size A B) : keepC p N x A B := Out.of_below hb _
theorem keepC_turn {l : Nat} {o : Obj} (o' : Obj) (hl : N ≤ l) (ho : A.heap[l]? = some o) (hc : o.isCells = false) : keepC p N x A (A.putObj l o') :=
  ⟨rfl, rfl, rfl, by simp [World.putObj], fun k _ hn => World.putObj_heap_other (fun e => hn (by subst e; exact .inl (.inr ⟨hl, o, ho, hc⟩)))⟩
/-- As it is seen from the world ahead of the list's making. -/
theorem keepC.ahead {w : World} (hb : Below w.heap.size w A) (hx : ∀ k, x.2.ownBlock = some k → w.heap.size ≤ k) (h : keepC p N x A B) : Out (fun k => TouchO p N w k ∨ w.heap.size ≤ k) w B :=
  Out.trans (Out.of_below hb _) h fun i hi e => by
    rcases e with (e | ⟨h1, o, h2, h3⟩) | e
    · exact .inl (.inl e)
    · exact .inl (.inr ⟨h1, o, (hb.block i hi).symm.trans h2, h3⟩)
    · exact .inr (hx i e)
theorem okC.gw {X : List (List Int)} {n : Nat} {pre : List (List Int × Value)} (h : okC X n N pre x A) (hb : Below A.heap.size A B) : okC X n N pre x B := by
  obtain ⟨h1, b, h2, h0, h3⟩ := h
  exact ⟨h1, b, h2, Nat.le_trans h0 hb.size, h3.below hb⟩
theorem okC.turn {X : List (List Int)} {n : Nat} {pre : List (List Int × Value)} {l : Nat} {o : Obj} (h : okC X n N pre x A) (o' : Obj) (hl : A.heap[l]? = some o) (hc : o.isCells = false) : okC X n N pre x (A.putObj l o') := by
  obtain ⟨h1, b, h2, h0, h3⟩ := h
  refine ⟨h1, b, h2, by simpa [World.putObj] using h0, h3.out11 (F := fun k => k = l) ?_ fun k hk e => ?_⟩
  · exact ⟨rfl, rfl, rfl, by simp [World.putObj], fun k _ hn => World.putObj_heap_other (fun e => hn (by subst e; rfl))⟩
  · have e : k = l := e
    subst e
    rcases h3.own.2 with ⟨rv, -⟩ | ⟨g, cap, cur, rv, -, hh, -⟩
    · rw [rv] at hk; cases hk
    · rw [rv] at hk
      have e2 : g = k := by simpa [Value.ownBlock] using hk
      subst e2
      rw [hh] at hl
      injection hl with hl
      subst hl
      cases hc
end
section
variable {p N gw gb b1 b2 n : Nat} {ns : List Int} {E : Eg} {L : List Nat} {A B : World}
theorem WkAt.keptC (h : WkAt A gw gb b2 n ns E L) (hn : NetW B gb b1 n ns E) (hb : b1 ≤ b2) (hk : Out (fun k => TouchO p N A k ∨ A.heap.size ≤ k) A B) (hp : p < b2) : WkAt B gw gb b2 n ns E L := by
  obtain ⟨gt, gr, vl, hM, -⟩ := h
  have key : ∀ k cs t fr, b2 ≤ k → A.heap[k]? = some (.cells cs t fr) → ¬ (TouchO p N A k ∨ A.heap.size ≤ k) := fun k cs t fr h1 h2 e => by
    rcases e with (e | ⟨-, o, h3, h4⟩) | e
    · omega
    · rw [h2] at h3; cases h3; cases h4
    · have := (Array.getElem?_eq_some_iff.1 h2).1; omega
  have own : ∀ (E : SEl) (v : Value) (m : Nat) (vs : List Value) k, SO E b2 A v m vs → v.ownBlock = some k → ¬ (TouchO p N A k ∨ A.heap.size ≤ k) := fun E v m vs k h1 h2 => by
    rcases h1.own.2 with ⟨e, -⟩ | ⟨g, cap, cur, e, h3, h4, -⟩
    · rw [e] at h2; cases h2
    · rw [e] at h2
      have e2 : g = k := by simpa [Value.ownBlock] using h2
      subst e2
      exact key g cur _ _ h3 h4
  obtain ⟨ws, k1, k2⟩ := hM.ready
  exact ⟨gt, gr, vl, hM.out hk (key gw _ _ _ hM.lo hM.row) (own _ _ _ _ gt hM.waits rfl) (own _ _ _ _ gr k2 rfl) (fun k hk => own _ _ _ _ k hM.laid hk), hn.up hb⟩
end
section
variable {p b2 gb n : Nat} {W W' : World} {ns : List Int} {E : Eg}
/-- A net whose blocks all lie behind p. -/
def NetQ (p : Nat) (W : World) (gb b2 n : Nat) (ns : List Int) (E : Eg) : Prop := ∃ go gi base An cn vo vi, NetB W gb go gi base n An cn ns vo vi (LOf E n) (LIf E n) ∧ base ≤ b2 ∧ (∀ (i : Nat) v k, (vo ++ vi)[i]? = some v → v.ownBlock = some k → k < b2) ∧ p < gb ∧ p < go ∧ p < gi ∧ ∀ ad, An = some ad → p < ad.block
theorem NetQ.toW (h : NetQ p W gb b2 n ns E) : NetW W gb b2 n ns E := by
  obtain ⟨go, gi, base, An, cn, vo, vi, k, h1, h2, -⟩ := h
  exact ⟨go, gi, base, An, cn, vo, vi, k, h1, h2⟩
theorem NetL.toQ {N : Nat} (h : NetL N W gb n ns E) (hp : p < N) : NetQ p W gb W.heap.size n ns E := by
  obtain ⟨go, gi, base, An, cn, vo, vi, k, h1, h2, h3, h4⟩ := h
  exact ⟨go, gi, base, An, cn, vo, vi, k, k.lt.2.2.2, fun i v q hv hq => (k.fam.lt hv hq).2, by omega, by omega, by omega, fun ad e => by have := h4 ad e; omega⟩
theorem NetQ.out (h : NetQ p W gb b2 n ns E) {F : Nat → Prop} (o : Out F W W') (hF : ∀ k, F k → k = p ∨ b2 ≤ k) : NetQ p W' gb b2 n ns E := by
  obtain ⟨go, gi, base, An, cn, vo, vi, h, h1, h2, q1, q2, q3, q4⟩ := h
  have hb := h.lt
  have no : ∀ k, F k → k ≠ gb ∧ k ≠ go ∧ k ≠ gi ∧ ∀ ad, An = some ad → ad.block ≠ k := fun k hk => by
    rcases hF k hk with rfl | e
    · exact ⟨by omega, by omega, by omega, fun ad e2 => by have := q4 ad e2; omega⟩
    · exact ⟨by omega, by omega, by omega, fun ad e2 => by have := (h.nA ad e2).1; omega⟩
  refine ⟨go, gi, base, An, cn, vo, vi, ⟨?_, ?_, h.nl, h.nc, h.nA, ?_, ?_, ?_, h.lo, ⟨h.lt.1, h.lt.2.1, h.lt.2.2.1, Nat.le_trans h.lt.2.2.2 o.size⟩, h.ne⟩, h1, h2, q1, q2, q3, q4⟩
  · exact (o.block gb (Array.getElem?_eq_some_iff.1 h.row).1 fun e => (no _ e).1 rfl).trans h.row
  · refine ⟨h.nb.len, h.nb.one, fun h0 => ?_⟩
    obtain ⟨g, q, e, hc⟩ := h.nb.cell h0
    exact ⟨g, q, e, fun j u hj => o.cell (hc j u hj) fun e2 => (no _ e2).2.2.2 _ e rfl⟩
  · refine h.so.out11 o fun k hk e => ?_
    have hk2 : go = k := by simpa [Value.ownBlock] using hk
    exact (no _ e).2.1 hk2.symm
  · refine h.si.out11 o fun k hk e => ?_
    have hk2 : gi = k := by simpa [Value.ownBlock] using hk
    exact (no _ e).2.2.1 hk2.symm
  · refine h.fam.out o fun i v k hv hk e => ?_
    rcases hF _ e with rfl | e2
    · have := (h.fam.lt hv hk).1; omega
    · have := h2 i v k hv hk; omega
theorem NetQ.below (h : NetQ p W gb b2 n ns E) (hb : Below W.heap.size W W') : NetQ p W' gb b2 n ns E := h.out (F := fun _ => False) (Out.of_below hb _) fun _ e => e.elim
end
section
variable {w : World} {A B : Option Addr} {n c m d : Nat} {cs : List Int} {ac : List Ac}
set_option maxHeartbeats 16000000 in
theorem wsOrdersLo (h : Hist w A n c B m d cs ac) (hR : Right cs ac) :
    Calls Tryz.prog 11 #[histV A n c B m d] w fun e w' => ∃ bx gb, e = .returned (.func (.func 33) #[] #[.pointer (some ⟨bx, 0, none⟩)]) ∧ Vx w' bx (.pointer (some ⟨gb, 0, none⟩)) 62 ∧ NetL w.heap.size w' gb n (riseP cs) (edgeH cs ac) ∧ Below w.heap.size w w' := by
  obtain ⟨W0, hB⟩ := h.box
  have HB := Lib.hid hB
  have HW := Lib.hid hB.eq
  have x0 := hB.x0
  have x1 := hB.x1
  have CC := Lib.hid (wsCheck hB.h)
  rw [errH_ok hR] at CC
  have HR := Lib.hid hR
  unfold histV at CC ⊢
  clear h hB hR
  go_enter Tryz.func11, Tryz.ntmps11
  go_upto_region 1 with fail
  rw [HW.out]
  go_upto_region 3 with (go_at_call 22; go_loud (refine CC.out.mono ?_; rintro e w1 ⟨rfl, b1⟩; have B1 := Lib.hid b1; have CN := Lib.hid (wsNewNetLo (HB.out.h.gw b1) HR.out); have y0 := keep_below x0 b1; have y1 := keep_below x1 b1; clear b1))
  unfold histV at CN
  go_upto_region 4 with (go_at_call 26; go_loud (refine CN.out.mono ?_; rintro e w2 ⟨gb, rfl, na, b2⟩; have B2 := Lib.hid b2; have NA := Lib.hid na; clear na b2))
  clear x0 x1
  obtain ⟨W3, hW3⟩ : ∃ W, w2.alloc (.cells #[.pointer (some ⟨gb, 0, none⟩)] 62) = W := ⟨_, rfl⟩
  have HW3 := Lib.hid hW3
  have b3 : Below w2.heap.size w2 W3 := hW3 ▸ alloc_below11 w2 _
  have V3 := Lib.hid (show Vx W3 w2.heap.size (.pointer (some ⟨gb, 0, none⟩)) 62 from hW3 ▸ Vx.new w2 _ _)
  have NA3 := Lib.hid (NA.out.below b3)
  have B3 := Lib.hid b3
  clear hW3 b3
  go_wp2
  rw [HW3.out]
  go_ret
  exact ⟨w2.heap.size, gb, rfl, V3.out, NA3.out.lower (Nat.le_trans HB.out.below.size B1.out.size), below_next (below_next (below_next HB.out.below B1.out) B2.out) B3.out⟩
end
section
variable {cs : List Int} {ac : List Ac} {n : Nat} {M : List Nat}
set_option maxHeartbeats 64000000 in
theorem hands_ordersC (nn bx gb p b1 : Nat) (V : World) (hR : Right cs ac) (hcl : cs.length = n) (hbx : Vx V bx (.pointer (some ⟨gb, 0, none⟩)) 62) (hnw : NetQ p V gb b1 n (riseP cs) (edgeH cs ac)) (hb1 : b1 ≤ V.heap.size) (hp : p < V.heap.size) (hT : TzAt V) (htp : 0 ≠ p) (hM : FillP (edgeH cs ac) n [] M) (hMl : M.length = n) :
    HandsC Fence.wide nn Tryz.prog 33 #[.pointer (some ⟨bx, 0, none⟩)] encO (okC (allN cs ac n) n V.heap.size) (keepC p V.heap.size) (fun xs => xs.map (·.1) = allN cs ac n) (fun _ => True) V := by
  intro l J Jx W hW hJ hJx hTol hY h0
  have YY := Lib.hid (fun pre x X (hX : J pre X) (hp : okC (allN cs ac n) n V.heap.size pre x X) => YieldAt.anyDepthO 8 (hY pre x X hX hp))
  have HJ := Lib.hid hJ
  have HTO := Lib.hid hTol
  have hn : n ≤ 4096 := by rw [← hcl]; exact hR.lc
  have hE : EdOk (edgeH cs ac) n := by have := hR.edOk; rw [hcl] at this; exact this
  have HN := Lib.hid hn
  have HE := Lib.hid hE
  have HL := Lib.hid (edge_len hR)
  have HM := Lib.hid hM
  have HY0 := Lib.hid (hM.lay .nil)
  have HA := Lib.hid (Ends11.of_full hE (hM.lay .nil) hMl)
  have cb := (hbx.gw hW).c
  have NW := Lib.hid (hnw.below hW)
  have TW := Lib.hid (hT.below hW)
  have HSZ := Lib.hid (show V.heap.size ≤ W.heap.size from hW.size)
  have HB1 := Lib.hid (And.intro hb1 hp)
  have HTP := Lib.hid (And.intro htp hT.lt)
  have J0 := Lib.hid h0
  have FST := Lib.hid (show allP (edgeH cs ac) n n [] = M :: remP (edgeH cs ac) n M from by
    have := hM.first .nil hMl
    rw [remP_nil, List.append_nil] at this
    exact this)
  have HML := Lib.hid hMl
  have CN := Lib.hid (wsNewWalk (E := edgeH cs ac) (hnw.below hW).toW.at_ (edge_len hR) hn)
  clear hW hJ hJx hTol hY h0 hbx hnw hb1 hp hT htp hM hMl hn hE hR hcl
  refine callsIn_wide.2 ?_
  simp only [List.append_toArray, List.cons_append, List.nil_append]
  go_enter Tryz.func33, Tryz.ntmps33
  go_upto_region 1 with (go_at_call 25; go_loud (refine CN.out.mono ?_; rintro e w1 ⟨gw, rfl, k1, bb1⟩; have B1 := Lib.hid bb1; have CF := Lib.hid (wsFill k1 HE.out HL.out HN.out (TW.out.below bb1) (Nat.lt_of_lt_of_le HTP.out.2 HSZ.out) .nil); clear k1 bb1))
  clear cb
  go_upto_region 2 with (go_at_call 27; go_loud (refine CF.out.mono ?_; rintro e w2 ⟨M2, f2, k2, o2, rfl⟩; obtain rfl := f2.det HM.out; have K2 := Lib.hid k2; have O2 := Lib.hid o2; clear f2 k2 o2; rw [decide_eq_true HML.out]))
  have J2 := Lib.hid (HTO.out [] w1 w2 (HJ.out [] W w1 J0.out B1.out) O2.out)
  have N2 := Lib.hid ((NW.out.below B1.out).out O2.out fun i e => .inr (Nat.le_trans HB1.out.1 (Nat.le_trans HSZ.out e)))
  have T2 := Lib.hid ((TW.out.below B1.out).out O2.out (fun e => by have e : W.heap.size ≤ 0 := e; have := HTP.out.2; have := HSZ.out; omega))
  have Z2 := Lib.hid (show W.heap.size ≤ w2.heap.size from Nat.le_trans B1.out.size O2.out.size)
  go_loopg [4] ((allP (edgeH cs ac) n n []).length + 1) (fun gk isv wr => ∃ (pre : List (List Int × Value)) (D Q : List (List Nat)), isv = .bool (!Q.isEmpty) ∧ J pre wr ∧ NetQ p wr gb b1 n (riseP cs) (edgeH cs ac) ∧ TzAt wr ∧ allP (edgeH cs ac) n n [] = D ++ Q ∧ pre.map (·.1) = D.map (numsP cs) ∧ pre.length = D.length ∧ (∀ M' Q', Q = M' :: Q' → Q' = remP (edgeH cs ac) n M' ∧ LayP (edgeH cs ac) n M' ∧ M'.length = n ∧ WkAt wr gw gb W.heap.size n (riseP cs) (edgeH cs ac) M') ∧ W.heap.size ≤ wr.heap.size ∧ gk = Q.length + 1)
  case atStart =>
    refine ⟨[], [], M2 :: remP (edgeH cs ac) n M2, rfl, J2.out, N2.out, T2.out, FST.out, rfl, rfl, fun M' Q' e => ?_, Z2.out, by rw [FST.out]⟩
    injection e with e1 e2
    subst e1 e2
    exact ⟨rfl, HY0.out, HML.out, K2.out⟩
  case round =>
    rename World => wr
    obtain ⟨pre, D, Q, rfl, hj, hnw, htz, hall, hmap, hlen, hq, hsz, hgk⟩ := hrel
    cases Q with
    | nil =>
      have FIN := Lib.hid (show pre.map (·.1) = allN cs ac n by unfold allN; rw [hall, List.append_nil]; exact hmap)
      have JJ := Lib.hid hj
      clear hj hnw htz hall hmap hlen hq hsz hgk
      go_wp2
      go_end0
      exact ⟨⟨_, rfl⟩, .inl ⟨_, FIN.out, JJ.out⟩⟩
    | cons M' Q' =>
      obtain ⟨q1, q2, q3, q4⟩ := hq M' Q' rfl
      have OKX := Lib.hid (show (allN cs ac n)[pre.length]? = some (numsP cs M') by
        unfold allN
        rw [hall, hlen, List.map_append, List.getElem?_append_right (by simp), List.length_map, Nat.sub_self]; rfl)
      have HNL := Lib.hid (show (numsP cs M').length = n by simp [numsP, q3])
      have CO := Lib.hid (wsOrd q4 HN.out q2)
      have JJ := Lib.hid hj
      have NN := Lib.hid hnw
      have TT := Lib.hid htz
      have KK := Lib.hid q4
      have HQ1 := Lib.hid q1
      have HQ2 := Lib.hid (And.intro q2 q3)
      have HALL := Lib.hid hall
      have HMAP := Lib.hid (And.intro hmap hlen)
      have HZ := Lib.hid hsz
      have HGK := Lib.hid hgk
      clear hj hnw htz hall hmap hlen hq hsz hgk q1 q2 q3 q4
      go_upto_region 4 with fail
      refine (wpIn_wide (n := 9)).1 ?_
      gi_wp2_with (refine ⟨trivial, ?_⟩; gi_at_call 28; go_loud (refine (callsIn_wide.2 CO.out).mono ?_; rintro e w3 ⟨v3, rfl, s3, b3⟩; have B3 := Lib.hid b3; have J3 := Lib.hid (HJ.out pre wr w3 JJ.out b3); have S3 := Lib.hid s3; obtain ⟨fn, tmps, assign, body, hy, hR⟩ := YY.out pre (numsP cs M', v3) w3 J3.out ⟨OKX.out, _, Nat.le_trans HSZ.out HZ.out, b3.size, s3.base (Nat.le_refl _) rfl HQ2.out.2⟩; have HRR := Lib.hid hR; unfold encO at hy; dsimp only at hy; clear hR s3 b3))
      refine HRR.out.mono ?_
      rintro e W4 hb
      have HB2 := Lib.hid hb
      clear hb HRR
      obtain ⟨rfl, hj, hk⟩ | ⟨rfl, hx⟩ := HB2.out
      · have J4 := Lib.hid hj
        have O4 := Lib.hid (keepC.ahead (p := p) (N := V.heap.size) B3.out (fun k e => (S3.out.own.lt k e).1) hk)
        have N4 := Lib.hid (show NetQ p W4 gb b1 n (riseP cs) (edgeH cs ac) from NN.out.out O4.out fun i e => by
          have := HB1.out; have := HSZ.out; have := HZ.out
          rcases e with (e | e) | e
          · exact .inl e
          · exact .inr (by have := e.1; omega)
          · exact .inr (by omega))
        have K4 := Lib.hid (WkAt.keptC KK.out N4.out.toW (Nat.le_trans (HB1.out.1) HSZ.out) O4.out (Nat.lt_of_lt_of_le HB1.out.2 HSZ.out))
        have T4 := Lib.hid (TzAt.out TT.out O4.out (fun e => by
          have := HTP.out.2; have := HSZ.out; have := HZ.out
          rcases e with (e | e) | e
          · exact HTP.out.1 e
          · have := e.1; omega
          · omega))
        have Z4 := Lib.hid (show W.heap.size ≤ W4.heap.size from Nat.le_trans HZ.out (Nat.le_trans B3.out.size hk.size))
        have CX := Lib.hid (wsNxt K4.out HE.out HL.out HN.out T4.out (Nat.lt_of_lt_of_le HTP.out.2 HSZ.out) HQ2.out.1 HA.out)
        clear hj hk HB2 hy
        gi_wp2
        go_wp2_with (go_at_call 34; go_loud (refine CX.out.mono ?_; rintro e w5 ⟨rfl, k5, o5⟩; have K5 := Lib.hid k5; have O5 := Lib.hid o5; clear k5 o5))
        go_roundg (gk - 1)
        case measure => have := HGK.out; omega
        case rel =>
          refine ⟨pre ++ [(numsP cs M', v3)], D ++ [M'], Q', by rw [HQ1.out], HTO.out _ W4 w5 J4.out O5.out, N4.out.out O5.out fun i e => .inr (Nat.le_trans HB1.out.1 (Nat.le_trans HSZ.out e)), T4.out.out O5.out (fun e => by have e : W.heap.size ≤ 0 := e; have := HTP.out.2; have := HSZ.out; omega), by rw [HALL.out, List.append_assoc]; rfl, by rw [List.map_append, List.map_append, HMAP.out.1]; rfl, by rw [List.length_append, List.length_append, HMAP.out.2]; rfl, fun N Q e => K5.out N Q (by rw [← HQ1.out]; exact e), Nat.le_trans Z4.out O5.out.size, by have := HGK.out; rw [List.length_cons] at this; omega⟩
      · have JX := Lib.hid hx
        clear hx HB2 hy
        gi_wp2
        go_wp2
        refine bodyPost_ret (results_none rfl _ _ _) rfl ?_
        exact ⟨⟨_, rfl⟩, .inr ⟨_, trivial, JX.out⟩⟩
set_option maxHeartbeats 16000000 in
theorem hands_noneC (nn bx gb b1 : Nat) (V : World) {keep : List Int × Value → World → World → Prop} {ok : List (List Int × Value) → List Int × Value → World → Prop} (hR : Right cs ac) (hcl : cs.length = n) (hbx : Vx V bx (.pointer (some ⟨gb, 0, none⟩)) 62) (hnw : NetW V gb b1 n (riseP cs) (edgeH cs ac)) (hT : TzAt V) (hM : FillP (edgeH cs ac) n [] M) (hMl : M.length ≠ n) :
    HandsC Fence.wide nn Tryz.prog 33 #[.pointer (some ⟨bx, 0, none⟩)] encO ok keep (fun xs => xs.map (·.1) = []) (fun _ => True) V := by
  intro l J Jx W hW hJ hJx hTol hY h0
  have HJ := Lib.hid hJ
  have HTO := Lib.hid hTol
  have hn : n ≤ 4096 := by rw [← hcl]; exact hR.lc
  have hE : EdOk (edgeH cs ac) n := by have := hR.edOk; rw [hcl] at this; exact this
  have HN := Lib.hid hn
  have HE := Lib.hid hE
  have HL := Lib.hid (edge_len hR)
  have HM := Lib.hid hM
  have cb := (hbx.gw hW).c
  have TW := Lib.hid (hT.below hW)
  have HSZ := Lib.hid (show V.heap.size ≤ W.heap.size from hW.size)
  have HTP := Lib.hid hT.lt
  have J0 := Lib.hid h0
  have HML := Lib.hid hMl
  have CN := Lib.hid (wsNewWalk (E := edgeH cs ac) (hnw.below hW).at_ (edge_len hR) hn)
  clear hW hJ hJx hTol hY h0 hbx hnw hT hM hMl hn hE hR hcl
  refine callsIn_wide.2 ?_
  simp only [List.append_toArray, List.cons_append, List.nil_append]
  go_enter Tryz.func33, Tryz.ntmps33
  go_upto_region 1 with (go_at_call 25; go_loud (refine CN.out.mono ?_; rintro e w1 ⟨gw, rfl, k1, bb1⟩; have B1 := Lib.hid bb1; have CF := Lib.hid (wsFill k1 HE.out HL.out HN.out (TW.out.below bb1) (Nat.lt_of_lt_of_le HTP.out HSZ.out) .nil); clear k1 bb1))
  clear cb
  go_upto_region 2 with (go_at_call 27; go_loud (refine CF.out.mono ?_; rintro e w2 ⟨M2, f2, k2, o2, rfl⟩; obtain rfl := f2.det HM.out; have K2 := Lib.hid k2; have O2 := Lib.hid o2; clear f2 k2 o2; rw [decide_eq_false HML.out]))
  have J2 := Lib.hid (HTO.out [] w1 w2 (HJ.out [] W w1 J0.out B1.out) O2.out)
  go_loopg [4] 1 (fun gk isv wr => isv = .bool false ∧ J [] wr ∧ gk = 1)
  case atStart => exact ⟨rfl, J2.out, rfl⟩
  case round =>
    rename World => wr
    obtain ⟨rfl, hj, hgk⟩ := hrel
    have JJ := Lib.hid hj
    clear hj hgk
    go_wp2
    go_end0
    exact ⟨⟨_, rfl⟩, .inl ⟨[], rfl, JJ.out⟩⟩
theorem hands_allC (nn bx gb p b1 : Nat) (V : World) (hR : Right cs ac) (hcl : cs.length = n) (hbx : Vx V bx (.pointer (some ⟨gb, 0, none⟩)) 62) (hnw : NetQ p V gb b1 n (riseP cs) (edgeH cs ac)) (hb1 : b1 ≤ V.heap.size) (hp : p < V.heap.size) (hT : TzAt V) (htp : 0 ≠ p) (hM : FillP (edgeH cs ac) n [] M) :
    HandsC Fence.wide nn Tryz.prog 33 #[.pointer (some ⟨bx, 0, none⟩)] encO (okC (allO cs ac n M) n V.heap.size) (keepC p V.heap.size) (fun xs => xs.map (·.1) = allO cs ac n M) (fun _ => True) V := by
  unfold allO
  by_cases hMl : M.length = n
  · rw [if_pos hMl]
    exact hands_ordersC nn bx gb p b1 V hR hcl hbx hnw hb1 hp hT htp hM hMl
  · rw [if_neg hMl]
    exact hands_noneC nn bx gb b1 V hR hcl hbx hnw.toW hT hM hMl
end
end Go.Proofs.YtnpeankmmojebaaGreatDoor
