import Derived.Test.YtnpeankmmojebaaGreatDoorJBB
/- Layer 11: the program's round. -/
set_option linter.unusedVariables false
namespace Go.Proofs.YtnpeankmmojebaaGreatDoor
set_option maxRecDepth 100000
set_option maxRecDepth 100000
open Go.RowKit

/-- The best list of steps so far, in its box. -/
structure Bx (w W : World) (E : Eg) (n b3 j : Nat) (fi : Value) : Prop where
  row : ∃ u, W.heap[b3]? = some (.cells #[u] 22 (0, 0)) ∧ ((fi = .int .i64 (-1) ∧ NoRd E j) ∨ ∃ f g st, fi = .int .i64 (f : Nat) ∧ u = .slice (some ⟨g, 0, none⟩) n n ∧ b3 < g ∧ SO seI (b3 + 1) W (.slice (some ⟨g, 0, none⟩) n n) n (numN st) ∧ Sel E n j f st ∧ ∀ v, gN st v ≤ n)
theorem SO.lower {E : SEl} {b0 b1 n : Nat} {w : World} {v : Value} {vs : List Value} (h : SO E b0 w v n vs) (hb : b1 ≤ b0) : SO E b1 w v n vs :=
  ⟨⟨h.own.1, by
    rcases h.own.2 with k | ⟨g, cap, cur, e, k0, k⟩
    · exact .inl k
    · exact .inr ⟨g, cap, cur, e, Nat.le_trans hb k0, k⟩⟩, h.len, h.one⟩
theorem SO.gt {b0 n c g : Nat} {w : World} {vs : List Value} {E : SEl} (h : SO E b0 w (.slice (some ⟨g, 0, none⟩) n c) n vs) : b0 ≤ g := (h.own.lt g rfl).1
theorem below_drewN11 (w : World) (q : Nat) : Below w.heap.size w (w.drewN q) := ⟨rfl, rfl, rfl, Nat.le_refl _, fun _ _ => rfl⟩
theorem Bx.leave {w wr W : World} {E : Eg} {n b3 j' : Nat} {fi : Value} {u : Value} (hrow : wr.heap[b3]? = some (.cells #[u] 22 (0, 0)))
    (hst : (fi = .int .i64 (-1) ∧ NoRd E j') ∨ ∃ f g st, fi = .int .i64 (f : Nat) ∧ u = .slice (some ⟨g, 0, none⟩) n n ∧ b3 < g ∧ SO seI (b3 + 1) wr (.slice (some ⟨g, 0, none⟩) n n) n (numN st) ∧ Sel E n j' f st ∧ ∀ v, gN st v ≤ n)
    (hb : Below wr.heap.size wr W) : Bx w W E n b3 j' fi := by
  refine ⟨⟨u, (hb.block _ (Array.getElem?_eq_some_iff.1 hrow).1).trans hrow, ?_⟩⟩
  rcases hst with k | ⟨f, g, st, k1, k2, k3, k4, k5⟩
  · exact .inl k
  · exact .inr ⟨f, g, st, k1, k2, k3, k4.below hb, k5⟩
theorem so_lit1 (w : World) (x : Int) (base : Nat) (hb : base ≤ w.heap.size) : SO seI base (w.alloc (.cells #[.int .i64 x] 3)) (.slice (some ⟨w.heap.size, 0, none⟩) 1 1) 1 [.int .i64 x] :=
  ⟨⟨rfl, .inr ⟨w.heap.size, 1, #[.int .i64 x], rfl, hb, heap_alloc_new w _, Nat.le_refl _, by simp [maxLen], rfl, rfl⟩⟩, rfl, fun u hu => by rw [List.mem_singleton.1 hu]; rfl⟩
theorem Bx.take {w w5 : World} {E : Eg} {n b3 j g5 b5 : Nat} {st5 : List Nat} {u : Value} (hrow : w5.heap[b3]? = some (.cells #[u] 22 (0, 0))) (so : SO seI b5 w5 (.slice (some ⟨g5, 0, none⟩) n n) n (numN st5)) (hb : b3 < b5) (hs : Sel E n (j + 1) j st5) (hn : ∀ v, gN st5 v ≤ n) {W : World} (hW : Below w5.heap.size w5 W) :
    Bx w (W.setCell ⟨b3, 0, none⟩ (.slice (some ⟨g5, 0, none⟩) n n)) E n b3 (j + 1) (.int .i64 (j : Nat)) := by
  have hg := so.gt
  refine ⟨⟨_, row_set11 ((hW.block _ (Array.getElem?_eq_some_iff.1 hrow).1).trans hrow) _, .inr ⟨j, g5, st5, rfl, rfl, by omega, ?_, hs, hn⟩⟩⟩
  exact ((so.lower (by omega)).below hW).out11 (Out.setCell (F := fun k => k = b3) (Out.refl _ W) (p := ⟨b3, 0, none⟩) (.inl rfl) _) fun k hk e => by
    have : g5 = k := by simpa [Value.ownBlock] using hk
    omega
section
variable {w : World} {gb go gi base n cn : Nat} {An : Option Addr} {ns : List Int} {vo vi : List Value} {E : Eg}
set_option maxHeartbeats 64000000 in
theorem wsRound (h : NetB w gb go gi base n An cn ns vo vi (LOf E n) (LIf E n)) (hE : EdOk E n) (hl : E.length ≤ 8192) (hn : n ≤ 4096) (hr : ∀ x, (outsP E x).Pairwise (· ≤ ·)) :
    Calls Tryz.prog 36 #[.pointer (some ⟨gb, 0, none⟩)] w fun e w' => ∃ v, e = .returned v ∧ ∃ l, RoundIs E n l ∧ (∀ r ∈ l, r < n) ∧ SO seI w.heap.size w' v l.length (numC (l.map fun r => ns.getD r 0)) ∧ Below w.heap.size w w' := by
  have x0 := h.cells.1
  have H := Lib.hid h
  have HE := Lib.hid hE
  have HL := Lib.hid hl
  have HN := Lib.hid hn
  have HR := Lib.hid hr
  obtain ⟨W1, hW1⟩ : ∃ W, w.alloc (.cells #[.slice none 0 0] 22) = W := ⟨_, rfl⟩
  have b1 : Below w.heap.size w W1 := hW1 ▸ alloc_below11 w _
  have q1 : W1.heap[w.heap.size]? = some (.cells #[.slice none 0 0] 22 (0, 0)) := hW1 ▸ heap_alloc_new w _
  have s1 : W1.heap.size = w.heap.size + 1 := by have := congrArg (fun W => W.heap.size) hW1; simpa using this.symm
  have y0 := keep_below x0 b1
  have B1 := Lib.hid b1
  have S1 := Lib.hid s1
  have HW1 := Lib.hid hW1
  have BX1 := Lib.hid (show Bx w W1 E n w.heap.size 0 (.int .i64 (-1)) from ⟨⟨_, q1, .inl ⟨rfl, fun r hr => absurd hr (Nat.not_lt_zero _)⟩⟩⟩)
  clear h hE hl hn hr hW1 b1 q1 s1
  go_enter Tryz.func36, Tryz.ntmps36
  go_upto_region 2 with fail
  rw [HW1.out]
  go_upto_region 4 with fail
  go_loopw [4, 16] (fun fi i wr => ∃ j : Nat, i = .int .i64 (j : Nat) ∧ j ≤ n ∧ Bx w wr E n w.heap.size j fi ∧ Below w.heap.size w wr) (fun _ i _ => n - (intOf i).toNat)
  case atStart => exact ⟨0, rfl, Nat.zero_le _, BX1.out, B1.out⟩
  case round =>
    rename World => wr
    obtain ⟨j, rfl, hj, ⟨u, hrow, hst⟩, hb⟩ := hrel
    by_cases hlt : j < n
    · have i1 : (j : Int) < (n : Int) := by omega
      have l1 : (j : Int) ≤ 4096 := by have := HN.out; omega
      have CSt := Lib.hid (wsSteps (H.out.below hb) HE.out HL.out HN.out hlt)
      have z0 := keep_below x0 hb
      have HB := Lib.hid hb
      have HLT := Lib.hid hlt
      have HST := Lib.hid hst
      have HROW := Lib.hid hrow
      clear hj hlt hb hrow
      rcases hst with ⟨rfl, hno⟩ | ⟨f, g, st, rfl, rfl, hg, hso, hsel, hbn⟩
      · have HNO := Lib.hid hno
        clear hno HST
        go_upto_region 7 with (go_at_call 57; go_loud (refine CSt.out.mono ?_; rintro e w5 ⟨g5, st5, rfl, is5, bn5, so5, b5⟩; have IS5 := Lib.hid is5; have BN5 := Lib.hid bn5; have SO5 := Lib.hid so5; have B5 := Lib.hid b5; clear is5 bn5 so5 b5))
        have cj := SO5.out.numAt (v := j) (by rw [IS5.out.len]; exact HLT.out)
        have hrow5 : w5.heap[w.heap.size]? = some (.cells #[u] 22 (0, 0)) := (B5.out.block _ (Array.getElem?_eq_some_iff.1 HROW.out).1).trans HROW.out
        have ROW5 := Lib.hid hrow5
        have LTB := Lib.hid (show w.heap.size < wr.heap.size from (Array.getElem?_eq_some_iff.1 HROW.out).1)
        have cb : w5.cell? ⟨w.heap.size, 0, none⟩ = some u := cell_of_row _ _ 0 _ _ _ hrow5
        have fb : w5.frozen? ⟨w.heap.size, 0, none⟩ = false := frozen_of_row _ _ _ _ _ hrow5
        obtain ⟨z, hz⟩ : ∃ z, gN st5 j = z := ⟨_, rfl⟩
        rw [hz] at cj
        have HZ := Lib.hid hz
        clear hz hrow5
        by_cases h0 : z = 0
        · subst h0
          have d1 : decide ((0 : Int) < ((0 : Nat) : Int)) = false := by simp
          go_quiet (fail)
          go_wp2
          go_roundw
          case rel => exact ⟨j + 1, by go_num, HLT.out, Bx.leave HROW.out (.inl ⟨rfl, HNO.out.more IS5.out HZ.out⟩) (below_next B5.out (below_drewN11 _ _)), HB.out.trans ((below_next B5.out (below_drewN11 _ _)).mono HB.out.size)⟩
          case measure => have := HLT.out; simp [intOf]; omega
        · have d1 : decide (0 < z) = true := by simp; omega
          have H0 := Lib.hid h0
          clear h0
          go_quiet (fail)
          go_wp2
          go_roundw
          case rel => exact ⟨j + 1, by go_num, HLT.out, Bx.take ROW5.out SO5.out LTB.out (HNO.out.sel IS5.out (by rw [HZ.out]; have := H0.out; omega)) BN5.out (below_drewN11 _ _), HB.out.trans ((below_next B5.out (below_drewN11 _ _)).mono HB.out.size |>.trans ((Out.setCell (F := fun k => k = w.heap.size) (Out.refl _ (w5.drewN nq)) (p := ⟨w.heap.size, 0, none⟩) (.inl rfl) _).below (by have := HB.out.size; have := B5.out.size; simp; omega) fun i hi e => by omega))⟩
          case measure => have := HLT.out; simp [intOf]; omega
      · have HSEL := Lib.hid hsel
        have HSO := Lib.hid hso
        have HBN := Lib.hid hbn
        have HG := Lib.hid hg
        clear hso hsel hbn hg HST
        go_upto_region 7 with (go_at_call 57; go_loud (refine CSt.out.mono ?_; rintro e w5 ⟨g5, st5, rfl, is5, bn5, so5, b5⟩; have IS5 := Lib.hid is5; have BN5 := Lib.hid bn5; have SO5 := Lib.hid so5; have B5 := Lib.hid b5; clear is5 bn5 so5 b5))
        have cj := SO5.out.numAt (v := j) (by rw [IS5.out.len]; exact HLT.out)
        have hrow5 : w5.heap[w.heap.size]? = some (.cells #[.slice (some ⟨g, 0, none⟩) n n] 22 (0, 0)) := (B5.out.block _ (Array.getElem?_eq_some_iff.1 HROW.out).1).trans HROW.out
        have ROW5 := Lib.hid hrow5
        have LTB := Lib.hid (show w.heap.size < wr.heap.size from (Array.getElem?_eq_some_iff.1 HROW.out).1)
        have cb : w5.cell? ⟨w.heap.size, 0, none⟩ = some (.slice (some ⟨g, 0, none⟩) n n) := cell_of_row _ _ 0 _ _ _ hrow5
        have fb : w5.frozen? ⟨w.heap.size, 0, none⟩ = false := frozen_of_row _ _ _ _ _ hrow5
        obtain ⟨z, hz⟩ : ∃ z, gN st5 j = z := ⟨_, rfl⟩
        rw [hz] at cj
        have HZ := Lib.hid hz
        clear hz hrow5
        have cf := (HSO.out.below B5.out).numAt (v := f) (by rw [HSEL.out.is.len]; have := HSEL.out.lt; have := HLT.out; omega)
        obtain ⟨y, hy⟩ : ∃ y, gN st f = y := ⟨_, rfl⟩
        rw [hy] at cf
        have HY := Lib.hid hy
        have f1 : (f : Int) < (n : Int) := by have := HSEL.out.lt; have := HLT.out; omega
        have f2 : decide ((f : Int) < 0) = false := by simp
        clear hy
        by_cases h0 : z = 0
        · subst h0
          have d1 : decide ((0 : Int) < ((0 : Nat) : Int)) = false := by simp
          go_quiet (fail)
          go_wp2
          go_roundw
          case rel => exact ⟨j + 1, by go_num, HLT.out, Bx.leave HROW.out (.inr ⟨f, g, st, rfl, rfl, HG.out, HSO.out, HSEL.out.more IS5.out (.inl HZ.out), HBN.out⟩) (below_next B5.out (below_drewN11 _ _)), HB.out.trans ((below_next B5.out (below_drewN11 _ _)).mono HB.out.size)⟩
          case measure => have := HLT.out; simp [intOf]; omega
        · have d1 : decide (0 < z) = true := by simp; omega
          have H0 := Lib.hid h0
          clear h0
          by_cases h1 : z < y
          · have d2 : decide (z < y) = true := by simp; omega
            have H1 := Lib.hid h1
            clear h1
            go_quiet (fail)
            go_wp2
            go_roundw
            case rel => exact ⟨j + 1, by go_num, HLT.out, Bx.take ROW5.out SO5.out LTB.out (HSEL.out.new IS5.out (by rw [HZ.out]; have := H0.out; omega) (by rw [HZ.out, HY.out]; exact H1.out)) BN5.out (below_drewN11 _ _), HB.out.trans ((below_next B5.out (below_drewN11 _ _)).mono HB.out.size |>.trans ((Out.setCell (F := fun k => k = w.heap.size) (Out.refl _ (w5.drewN nq)) (p := ⟨w.heap.size, 0, none⟩) (.inl rfl) _).below (by have := HB.out.size; have := B5.out.size; simp; omega) fun i hi e => by omega))⟩
            case measure => have := HLT.out; simp [intOf]; omega
          · have d2 : decide (z < y) = false := by simp; omega
            have H1 := Lib.hid h1
            clear h1
            go_quiet (fail)
            go_wp2
            go_roundw
            case rel => exact ⟨j + 1, by go_num, HLT.out, Bx.leave HROW.out (.inr ⟨f, g, st, rfl, rfl, HG.out, HSO.out, HSEL.out.more IS5.out (.inr (by rw [HZ.out, HY.out]; have := H1.out; omega)), HBN.out⟩) (below_next B5.out (below_drewN11 _ _)), HB.out.trans ((below_next B5.out (below_drewN11 _ _)).mono HB.out.size)⟩
            case measure => have := HLT.out; simp [intOf]; omega
    · obtain rfl : j = n := by omega
      have i1 : ¬ (j : Int) < (j : Int) := by omega
      have HB := Lib.hid hb
      rcases hst with ⟨rfl, hno⟩ | ⟨f, g, st, rfl, rfl, hg, hso, hsel, hbn⟩
      · have HNO := Lib.hid hno
        clear hj hlt hb hrow hno
        go_wp2
        go_ret
        exact ⟨_, rfl, [], HNO.out.round, by simp, SO.nil _ _ _, HB.out⟩
      · have cb : wr.cell? ⟨w.heap.size, 0, none⟩ = some (.slice (some ⟨g, 0, none⟩) j j) := cell_of_row _ _ 0 _ _ _ hrow
        have cf := hso.numAt (v := f) (by rw [hsel.is.len]; exact hsel.lt)
        have hpos := hsel.pos
        obtain ⟨k, hk⟩ : ∃ k, gN st f = k + 1 := ⟨gN st f - 1, by omega⟩
        have hk4 : k ≤ 4096 := by have := hbn f; have := HN.out; omega
        rw [hk, Int.natCast_add] at cf
        have f1 : (f : Int) < (j : Int) := by have := hsel.lt; omega
        have f2 : ¬ (f : Int) < 0 := by omega
        have f3 : (k : Int) ≤ 4096 := by omega
        have z0 := keep_below x0 hb
        have hx : ns[f]? = some (ns.getD f 0) := by rw [List.getD_eq_getElem?_getD, List.getElem?_eq_getElem (by rw [H.out.nl]; exact hsel.lt)]; rfl
        obtain ⟨nf, hnf⟩ : ∃ x, ns.getD f 0 = x := ⟨_, rfl⟩
        rw [hnf] at hx
        obtain ⟨ga, oa, rfl, cn1⟩ := (H.out.nb.gw hb).at_ (numC_at hx)
        obtain ⟨X1, hX1⟩ : ∃ X, wr.alloc (.cells #[.int .i64 (nf)] 3) = X := ⟨_, rfl⟩
        obtain ⟨X2, hX2⟩ : ∃ X, X1.alloc (.cells #[.int .i64 (k : Int)] 3) = X := ⟨_, rfl⟩
        have bX1 : Below wr.heap.size wr X1 := hX1 ▸ alloc_below11 _ _
        have bX2 : Below X1.heap.size X1 X2 := hX2 ▸ alloc_below11 _ _
        have sX1 : X1.heap.size = wr.heap.size + 1 := by have := congrArg (fun W => W.heap.size) hX1; simpa using this.symm
        have sX2 : X2.heap.size = X1.heap.size + 1 := by have := congrArg (fun W => W.heap.size) hX2; simpa using this.symm
        have soL : SO seI wr.heap.size X1 (.slice (some ⟨wr.heap.size, 0, none⟩) 1 1) 1 [.int .i64 (nf)] := hX1 ▸ so_lit1 _ _ _ (Nat.le_refl _)
        have rX2 : X2.heap[X1.heap.size]? = some (.cells #[.int .i64 (k : Int)] 3 (0, 0)) := hX2 ▸ heap_alloc_new _ _
        have cf1 := keep_below cf bX1
        have cb1 := keep_below cb bX1
        have HX1 := Lib.hid hX1
        have HX2 := Lib.hid hX2
        have BX := Lib.hid (below_next bX1 bX2)
        have SL := Lib.hid (soL.below bX2)
        have RX2 := Lib.hid rX2
        have SZ := Lib.hid (And.intro sX1 sX2)
        have HSO := Lib.hid hso
        have HSEL := Lib.hid hsel
        have HBN := Lib.hid hbn
        have HG := Lib.hid hg
        have HK := Lib.hid hk
        have HNF := Lib.hid hnf
        have CB := Lib.hid cb
        have HGW := Lib.hid hso.own.lt
        clear hj hlt hb hrow hso hsel hbn hg hpos hk hk4 hx hnf hX1 hX2 bX1 bX2 sX1 sX2 soL rX2
        go_upto_region 13 with fail
        rw [HX1.out]
        go_upto_region 15 with fail
        rw [HX2.out]
        obtain ⟨gn, on, eA, hcn⟩ := H.out.nb.cell (by have := HSEL.out.lt; omega)
        cases eA
        have HCN := Lib.hid hcn
        have HW := Lib.hid (show Below w.heap.size w X2 from HB.out.trans (BX.out.mono HB.out.size))
        have y1 := H.out.cells.2.1
        have HY1 := Lib.hid y1
        have HX0 := Lib.hid x0
        clear hcn y1 cf cb cf1 cb1 cn1 z0 y0 x0
        go_loopg [7, 8, 9] (k + 1) (fun gk lv av bv wy => ∃ (L : List Nat) (at_ left bl : Nat), av = .int .i64 (at_ : Nat) ∧ bv = .pointer (some ⟨bl, 0, none⟩) ∧ gk = left + 1 ∧ Ch E j f (k + 1) L at_ left ∧ SO seI wr.heap.size wy lv L.length (numC (L.map fun r => ns.getD r 0)) ∧ wy.heap[bl]? = some (.cells #[.int .i64 (left : Nat)] 3 (0, 0)) ∧ lv.ownBlock ≠ some bl ∧ wr.heap.size ≤ bl ∧ Below wr.heap.size wr wy)
        case atStart =>
          refine ⟨[f], f, k, X1.heap.size, rfl, rfl, rfl, Ch.start HSEL.out HK.out, ?_, RX2.out, ?_, ?_, BX.out⟩
          · show SO seI wr.heap.size X2 _ 1 [.int .i64 (ns.getD f 0)]
            rw [HNF.out]; exact SL.out
          · intro e
            have : wr.heap.size = X1.heap.size := by simpa [Value.ownBlock] using e
            have := SZ.out.1; omega
          · have := SZ.out.1; omega
        case round =>
          rename World => wy
          obtain ⟨L, at_, left, bl, rfl, rfl, rfl, hch, hsL, hrb, hob, hbl, hby⟩ := hrel
          have c9 : wy.cell? ⟨bl, 0, none⟩ = some (.int .i64 (left : Nat)) := cell_of_row _ _ 0 _ _ _ hrb
          have HBY := Lib.hid hby
          have HSL := Lib.hid hsL
          cases left with
          | zero =>
            have HCH := Lib.hid hch
            clear hch hsL hrb hob hbl hby
            go_wp2
            go_ret
            exact ⟨_, rfl, L, HCH.out.round HSEL.out HK.out, HCH.out.lt, HSL.out.lower HB.out.size, HB.out.trans (HBY.out.mono HB.out.size)⟩
          | succ left =>
            rw [Int.natCast_add] at c9
            have hfd := hch.found HSEL.out HK.out (Nat.succ_pos _)
            have hatn : at_ < j := hch.lt at_ (List.mem_of_getElem? hch.last)
            have hlk : left + 1 ≤ k + 1 := by have := hch.len; omega
            have bW : Below w.heap.size w wy := HB.out.trans (hby.mono HB.out.size)
            obtain ⟨Ao, co, hao, hso⟩ := H.out.outAt bW hatn
            obtain ⟨us, hus⟩ : ∃ us, outsP E at_ = us := ⟨_, rfl⟩
            obtain ⟨q, hq⟩ : ∃ q, us.length = q := ⟨_, rfl⟩
            rw [hus] at hao hso hfd
            rw [hq] at hao hso
            have hq0 : 0 < q := by
              obtain ⟨u, hu, -⟩ := hfd
              rw [← hq]; exact List.length_pos_of_mem hu
            have hq8 : q ≤ 8192 := by rw [← hq, ← hus]; exact Nat.le_trans (outsP_len _ _) HL.out
            obtain ⟨g8, o8, rfl, hc8⟩ := hso.cell hq0
            have CI := Lib.hid (wsIdx2 (ic := co) hso hq hq8 (keep_below CB.out hby) (cell_of_row _ _ 0 _ _ _ hrb) (fun x hx => keep_below (HSO.out.numAt (by rw [HSEL.out.is.len]; exact hx)) hby) (fun u hu => by rw [← hus] at hu; exact (HE.out.lt _ (mem_outs.1 hu)).2) hfd)
            have d0 := keep_below HX0.out bW
            have d1 := keep_below HY1.out bW
            have j1 : (at_ : Int) < (j : Int) := by omega
            have j2 : (0 : Int) < (left : Int) + 1 := by omega
            have j3 : (left : Int) ≤ 4097 := by omega
            have HC8 := Lib.hid hc8
            have HUS := Lib.hid hus
            have HQ := Lib.hid hq
            have HCH := Lib.hid hch
            have HRB := Lib.hid hrb
            have HOB := Lib.hid hob
            have HBL := Lib.hid hbl
            have BW := Lib.hid bW
            clear hch hsL hrb hob hbl hby hfd hatn hlk bW hso hus hq hq0 hq8 hc8
            go_upto_region 18 with (go_at_call 58; go_loud (refine CI.out.mono ?_; rintro e w7 ⟨j7, y7, rfl, hy7, he7, hf7, b7⟩; have HY7 := Lib.hid hy7; have HE7 := Lib.hid he7; have HF7 := Lib.hid hf7; have B7 := Lib.hid b7; clear hy7 he7 hf7 b7))
            have e0 := keep_below d0 B7.out
            have e1 := keep_below d1 B7.out
            have e2 := keep_below hao B7.out
            have e3 := keep_below (HC8.out j7 _ (numN_at HY7.out)) B7.out
            have hyn : y7 < j := (HE.out.lt _ (mem_outs.1 (by rw [HUS.out]; exact List.mem_of_getElem? HY7.out))).2
            obtain ⟨ny, hny⟩ : ∃ x, ns.getD y7 0 = x := ⟨_, rfl⟩
            have hx7 : ns[y7]? = some ny := by rw [← hny, List.getD_eq_getElem?_getD, List.getElem?_eq_getElem (by rw [H.out.nl]; exact hyn)]; rfl
            have e4 := keep_below (keep_below (HCN.out y7 _ (numC_at hx7)) BW.out) B7.out
            have e5 : (y7 : Int) < (j : Int) := by omega
            have e6 : (j7 : Int) < (q : Int) := by have := (List.getElem?_eq_some_iff.1 HY7.out).1; have := HQ.out; omega
            have HL7 := Lib.hid (show L.length ≤ 4097 by have := HCH.out.len; omega)
            have SBY := Lib.hid (show SB (w7.alloc (.cells #[.int .i64 ny] 3)) (some ⟨w7.heap.size, 0, none⟩) (seI.s * 1) [.int .i64 ny] from ⟨rfl, fun u hu => by rw [List.mem_singleton.1 hu]; rfl, fun _ => ⟨w7.heap.size, 0, rfl, fun i u hi => by
              rw [cell_of_row _ _ _ _ _ _ (heap_alloc_new w7 _)]
              simpa using hi⟩⟩)
            have HNY := Lib.hid hny
            have SLZ := Lib.hid ((HSL.out.below B7.out).below (alloc_below11 w7 (.cells #[.int .i64 ny] 3)))
            have BZ := Lib.hid (below_next B7.out (alloc_below11 w7 (.cells #[.int .i64 ny] 3)))
            clear hyn hny hx7 d0 d1 hao
            go_upto_region 20 with (at_builtin; go_loud (refine so_appendL seI_ok (by rfl) (.tmp 84) (.tmp 92) (by rfl) _ (by rfl) SLZ.out w7.heap.size 1 [.int .i64 ny] (by rfl) SBY.out (by have := HL7.out; simp only [seI]; omega) (by have := HL7.out; simp only [maxLen]; omega) (by have := HBY.out.size; have := BZ.out.size; omega) ?_; intro g9 c9' w9 o9 hg9 hl9; have O9 := Lib.hid o9; have G9 := Lib.hid (And.intro hg9 hl9); clear o9 hg9 hl9))
            clear e0 e1 e2 e3 e4 e5 e6
            have lbl := (Array.getElem?_eq_some_iff.1 HRB.out).1
            have oz : Out (fun k => u7.ownBlock = some k) wy w9 := (Out.of_below BZ.out _).then ((Out.refl _ _).grown G9.out.1 fun k e => .inl e)
            have rb9 : w9.heap[bl]? = some (.cells #[.int .i64 ((left + 1 : Nat) : Int)] 3 (0, 0)) := (oz.block _ lbl fun e => HOB.out e).trans HRB.out
            have c20 : w9.cell? ⟨bl, 0, none⟩ = some (.int .i64 ((left : Int) + 1)) := cell_of_row _ _ 0 _ _ _ rb9
            have RB9 := Lib.hid rb9
            have OZ := Lib.hid oz
            have LBL := Lib.hid lbl
            clear c9 lbl oz rb9
            go_wp2
            go_roundg (left + 1)
            case measure => omega
            case rel =>
              have hob : ∀ k, u7.ownBlock = some k → wr.heap.size ≤ k ∧ k < wy.heap.size := HSL.out.own.lt
              have bz : Below wr.heap.size wr w9 := HBY.out.trans (OZ.out.below HBY.out.size fun i hi e => by have := (hob i e).1; omega)
              refine ⟨L ++ [y7], y7, left, w9.heap.size, rfl, rfl, rfl, HCH.out.next HE.out HSEL.out HK.out (HR.out at_) (by rw [HUS.out]; exact HY7.out) HE7.out (by rw [HUS.out]; exact HF7.out), ?_, heap_alloc_new w9 _, ?_, bz.size, bz.trans ((alloc_below11 w9 _).mono bz.size)⟩
              · rw [List.length_append, List.length_singleton, List.map_append]
                have h1 := O9.out.below (alloc_below11 w9 (.cells #[.int .i64 (left : Nat)] 3))
                have e : numC (L.map (fun r => ns.getD r 0) ++ [y7].map fun r => ns.getD r 0) = numC (L.map fun r => ns.getD r 0) ++ [.int .i64 ny] := by
                  rw [List.map_singleton, HNY.out]; simp [numC]
                rw [e]
                exact h1
              · intro e
                have h1 : g9 = w9.heap.size := by simpa [Value.ownBlock] using e
                have h2 := (O9.out.own.lt g9 rfl).2
                omega
end
end Go.Proofs.YtnpeankmmojebaaGreatDoor
