/- describe: one node as it is told. -/
import Derived.Test.YtlhpoliiojekeaaInts
namespace Go.Proofs.Ytlhpoliiojekeaa
set_option maxRecDepth 100000
open Go.RowKit

/-- The node as it is told, and its kids: what is laid is new. -/
def DescIs (w : World) (t : TN) (ys : List Value) (e : Ending) (w' : World) : Prop :=
  ∃ kv zv C cc, e = .returned (.tuple #[.agg #[.bool t.leaf, kv, zv], .slice C ys.length cc]) ∧ VO elS w.heap.size w' kv (t.ks.map Value.string) ∧ VO elK w.heap.size w' zv (intsV t.kids) ∧ VB w' C ys.length ys ∧ ys.length ≤ cc ∧ Below w.heap.size w w'

theorem cell3 {w : World} {g : Nat} {a b c : Value} {e : TypeId} (h : w.heap[g]? = some (.cells #[a, b, c] e (0, 0))) : w.cell? ⟨g, 0, none⟩ = some a ∧ w.cell? ⟨g, 1, none⟩ = some b ∧ w.cell? ⟨g, 2, none⟩ = some c :=
  ⟨by rw [cell_of_row _ _ _ _ _ _ h]; rfl, by rw [cell_of_row _ _ _ _ _ _ h]; rfl, by rw [cell_of_row _ _ _ _ _ _ h]; rfl⟩

set_option maxHeartbeats 8000000 in
theorem wdescL {w : World} {g : Nat} {ps : List Pr} (h : LfAt w g ps) (hn : ps.length ≤ 990) (num : Nat) :
    Calls Try.prog 46 #[lp g, .int .i64 (num : Int)] w (DescIs w ⟨true, keys ps, []⟩ []) := by
  obtain ⟨A, c, B, e, h0, h1, h2, h3, h4⟩ := h
  obtain ⟨W, hW⟩ : ∃ W, w.alloc (.cells #[.bool false, .slice none 0 0, .slice none 0 0] 62) = W := ⟨_, rfl⟩
  have g1 : Gw w W := by rw [← hW]; exact (Gw.refl _).alloc _
  have ha := heap_alloc_new w (.cells #[.bool false, .slice none 0 0, .slice none 0 0] 62)
  rw [hW] at ha
  have c0 : W.cell? ⟨g, 0, none⟩ = some (.slice A ps.length c) := keep_below (by rw [cell_of_row _ _ _ _ _ _ h0]; rfl) g1
  have CC := Lib.hid (wcloneS W A ps.length c (keysV ps) (h1.gw g1) (by omega))
  have FIN := Lib.hid (show ∀ w8 v8, Gw W w8 → VO elS W.heap.size w8 v8 (keysV ps) → w8.heap[w.heap.size]? = some (.cells #[.bool false, .slice none 0 0, .slice none 0 0] 62 (0, 0)) ∧ ∀ a b d, let X := ((w8.setCell ⟨w.heap.size, 0, none⟩ a).setCell ⟨w.heap.size, 1, none⟩ b).setCell ⟨w.heap.size, 2, none⟩ d
      X.heap[w.heap.size]? = some (.cells #[a, b, d] 62 (0, 0)) ∧ VO elS w.heap.size X v8 ((keys ps).map Value.string) ∧ Below w.heap.size w X from fun w8 v8 g8 o8 => by
    have hr := (Below.block g8 _ (Array.getElem?_eq_some_iff.1 ha).1).trans ha
    refine ⟨hr, fun a b d => ?_⟩
    have x1 : Xt w.heap.size w8 (w8.setCell ⟨w.heap.size, 0, none⟩ a) := Xt.set (Gw.refl _) 0 _
    have x2 : Xt w.heap.size (w8.setCell ⟨w.heap.size, 0, none⟩ a) ((w8.setCell ⟨w.heap.size, 0, none⟩ a).setCell ⟨w.heap.size, 1, none⟩ b) := Xt.set (Gw.refl _) 1 _
    have x3 : Xt w.heap.size ((w8.setCell ⟨w.heap.size, 0, none⟩ a).setCell ⟨w.heap.size, 1, none⟩ b) (((w8.setCell ⟨w.heap.size, 0, none⟩ a).setCell ⟨w.heap.size, 1, none⟩ b).setCell ⟨w.heap.size, 2, none⟩ d) := Xt.set (Gw.refl _) 2 _
    have x := (x1.trans x2).trans x3
    refine ⟨by simp [World.setCell, Array.getElem?_modify, hr], ?_, Xt.below (g1.trans g8) x (Nat.le_refl _)⟩
    rw [← keysV_eq]
    exact (o8.mono g1.size).xt x hr (by decide))
  have t1 := ta_ll
  unfold lp
  clear h0 h1 h3 ha
  go_enter Try.func46, Try.ntmps46
  go_upto_region 4 with fail
  go_wp2_with (go_at_call 60; go_loud (refine CC.out.mono ?_; rintro e w8 ⟨v8, rfl, o8, b8⟩; obtain ⟨hr8, hx8⟩ := FIN.out w8 v8 b8 o8; obtain ⟨A8, c8, hv8, -, -, -⟩ := o8.form; subst hv8; have r0 : w8.cell? ⟨w.heap.size, 0, none⟩ = some (.bool false) := (by rw [cell_of_row _ _ _ _ _ _ hr8]; rfl); have r1 : w8.cell? ⟨w.heap.size, 1, none⟩ = some (.slice none 0 0) := (by rw [cell_of_row _ _ _ _ _ _ hr8]; rfl); have r2 : w8.cell? ⟨w.heap.size, 2, none⟩ = some (.slice none 0 0) := (by rw [cell_of_row _ _ _ _ _ _ hr8]; rfl); have f0 : w8.frozen? ⟨w.heap.size, 0, none⟩ = false := (by simp [World.frozen?, hr8]); have f1 : w8.frozen? ⟨w.heap.size, 1, none⟩ = false := (by simp [World.frozen?, hr8]); have f2 : w8.frozen? ⟨w.heap.size, 2, none⟩ = false := (by simp [World.frozen?, hr8]); have HX := Lib.hid hx8; clear hr8 hx8 o8 b8))
  obtain ⟨x1, x2, x3⟩ := HX.out (.bool true) (.slice A8 (keysV ps).length c8) (.slice none 0 0)
  have X0 := Lib.hid (cell3 x1)
  have X2 := Lib.hid x2
  have X3 := Lib.hid x3
  clear x1 x2 x3 r0 r1 r2 f0 f1 f2 HX
  refine bodyPost_ret (v := .tuple #[.agg #[.bool true, .slice A8 (keysV ps).length c8, .slice none 0 0], .slice none 0 0]) (by simp [results, Try.results46, go_sem, X0.out.1, X0.out.2.1, X0.out.2.2]) rfl ⟨_, _, none, 0, rfl, X2.out, VO.nil _ _ _, VB.empty _ _, Nat.le_refl _, X3.out⟩

set_option maxHeartbeats 16000000 in
theorem wdescI {ord d : Nat} {w : World} {g : Nat} {ps : List Pr} {ks : List ByteArray} {kids : List Kid} (h : InC (NodeAt ord w d) w g ps ks kids) (hn : kids.length ≤ 990) (num : Nat) (hnum : num ≤ 1000000000) :
    Calls Try.prog 46 #[ip g, .int .i64 (num : Int)] w (DescIs w ⟨false, ks, List.range' num kids.length⟩ (kids.map Kid.v)) := by
  have hnk := h.num
  obtain ⟨A, c, C, e, k0, k1, h1, h2, h3, h4⟩ := h.cells
  obtain ⟨W, hW⟩ : ∃ W, w.alloc (.cells #[.bool false, .slice none 0 0, .slice none 0 0] 62) = W := ⟨_, rfl⟩
  have g1 : Gw w W := by rw [← hW]; exact (Gw.refl _).alloc _
  have ha := heap_alloc_new w (.cells #[.bool false, .slice none 0 0, .slice none 0 0] 62)
  rw [hW] at ha
  have hWs : W.heap.size = w.heap.size + 1 := by rw [← hW]; simp
  have c0 : W.cell? ⟨g, 0, none⟩ = some (.slice A ks.length c) := keep_below k0 g1
  have CC := Lib.hid (wcloneS W A ks.length c (ks.map Value.string) (h1.gw g1) (by omega))
  have K1 := Lib.hid k1
  have H3 := Lib.hid h3
  have H4 := Lib.hid h4
  have HA := Lib.hid ha
  have G1 := Lib.hid g1
  have HWS := Lib.hid hWs
  have t1 := ta_il
  have t2 := ta_ii
  unfold ip
  clear h h1 h3 ha hnk k0 k1 hWs h4 g1
  go_enter Try.func46, Try.ntmps46
  go_upto_region 8 with (go_at_call 60; go_loud (refine CC.out.mono ?_; rintro e w8 ⟨v8, rfl, o8, b8⟩; obtain ⟨A8, c8, hv8, -, -, -⟩ := o8.form; subst hv8; have O8 := Lib.hid o8; have B8 := Lib.hid (show Gw W w8 from b8); clear o8 b8))
  obtain ⟨X0, hX0⟩ : ∃ X0, w8.alloc (.cells #[.bool false, .slice A8 ks.length c8, .slice none 0 0] 62) = X0 := ⟨_, rfl⟩
  obtain ⟨u, hu⟩ : ∃ u, w8.heap.size = u := ⟨_, rfl⟩
  have hu8 := heap_alloc_new w8 (.cells #[.bool false, .slice A8 ks.length c8, .slice none 0 0] 62)
  rw [hX0, hu] at hu8
  have g80 : Gw w8 X0 := by rw [← hX0]; exact (Gw.refl _).alloc _
  have hA0 := (Below.block (B8.out.trans g80) _ (Array.getElem?_eq_some_iff.1 HA.out).1).trans HA.out
  have hsz := Below.size B8.out
  have hWS := HWS.out
  have hur : u ≠ w.heap.size := by omega
  have hru : w.heap.size ≠ u := by omega
  have hub : w.heap.size ≤ u := by omega
  have INIT := Lib.hid (show X0.heap[u]? = some (.cells #[.bool false, .slice A8 ks.length c8, .slice none 0 0] 62 (0, 0)) ∧ VO elS w.heap.size X0 (.slice A8 ks.length c8) (ks.map Value.string) ∧ X0.heap[w.heap.size]? = some (.cells #[.bool false, .slice none 0 0, .slice none 0 0] 62 (0, 0)) ∧ Below w.heap.size w X0 from
    ⟨hu8, by have := (O8.out.mono (Below.size G1.out)).gw g80; simpa using this, hA0, G1.out.trans (B8.out.trans g80)⟩)
  have k1 : X0.cell? ⟨g, 1, none⟩ = some (.slice C kids.length e) := keep_below K1.out (G1.out.trans (B8.out.trans g80))
  rw [hX0, hu]
  obtain ⟨m, hm⟩ : ∃ m, kids.length = m := ⟨_, rfl⟩
  have HM := Lib.hid hm
  rw [hm] at k1 hn
  have HUB := Lib.hid hub
  clear hX0 hu8 g80 hA0 hsz hWS hu O8 B8 hub c0
  go_upto_region 9 with fail
  go_loopw [34] (fun i' wr => ∃ (j : Nat) (zv : Value), i' = .int .i64 (j : Nat) ∧ j ≤ m ∧ wr.heap[u]? = some (.cells #[.bool false, .slice A8 ks.length c8, zv] 62 (0, 0)) ∧ VO elK w.heap.size wr zv (intsV (List.range' num j)) ∧ VO elS w.heap.size wr (.slice A8 ks.length c8) (ks.map Value.string) ∧ wr.heap[w.heap.size]? = some (.cells #[.bool false, .slice none 0 0, .slice none 0 0] 62 (0, 0)) ∧ Below w.heap.size w wr) (fun i' _ => m - (intOf i').toNat)
  case atStart => exact ⟨0, _, rfl, Nat.zero_le _, INIT.out.1, VO.nil _ _ _, INIT.out.2.1, INIT.out.2.2.1, INIT.out.2.2.2⟩
  case round =>
    rename World => wr
    obtain ⟨j, zv, rfl, hj, hU, hZ, hK, hR, hB⟩ := hrel
    by_cases hlt : j < m
    · obtain ⟨-, c1, c2⟩ := cell3 hU
      obtain ⟨z, hz⟩ : ∃ z, num + j = z := ⟨_, rfl⟩
      have ez : IntKind.i64.wrap ((num : Int) + (j : Int)) = (z : Int) := by rw [IntKind.wrap_i64]; omega
      obtain ⟨Wb, hWb⟩ : ∃ Wb, wr.alloc (.cells #[.int .i64 (z : Int)] 3) = Wb := ⟨_, rfl⟩
      have gb : Gw wr Wb := by rw [← hWb]; exact (Gw.refl _).alloc _
      have cb : Wb.cell? ⟨wr.heap.size, 0, none⟩ = some (.int .i64 (z : Int)) := by rw [← hWb]; simp
      have hUb := (Below.block gb _ (Array.getElem?_eq_some_iff.1 hU).1).trans hU
      have hRb := (Below.block gb _ (Array.getElem?_eq_some_iff.1 hR).1).trans hR
      have ZB := Lib.hid (hZ.gw gb)
      have KB := Lib.hid (hK.gw gb)
      have CB := Lib.hid cb
      have BB := Lib.hid (hB.trans (Below.mono gb hB.size))
      have STEP := Lib.hid (show ∀ v' w', VO elK w.heap.size w' v' (intsV (List.range' num j ++ [z])) → Below w.heap.size Wb w' → Wb.grownBy w' zv.ownBlock →
          w'.heap[u]? = some (.cells #[.bool false, .slice A8 ks.length c8, zv] 62 (0, 0)) ∧ ((w'.setCell ⟨u, 2, none⟩ v').heap[u]? = some (.cells #[.bool false, .slice A8 ks.length c8, v'] 62 (0, 0)) ∧ VO elK w.heap.size (w'.setCell ⟨u, 2, none⟩ v') v' (intsV (List.range' num (j + 1))) ∧ VO elS w.heap.size (w'.setCell ⟨u, 2, none⟩ v') (.slice A8 ks.length c8) (ks.map Value.string) ∧ (w'.setCell ⟨u, 2, none⟩ v').heap[w.heap.size]? = some (.cells #[.bool false, .slice none 0 0, .slice none 0 0] 62 (0, 0)) ∧ Below w.heap.size w (w'.setCell ⟨u, 2, none⟩ v')) from fun v' w' o' b' gr => by
        have u' := ZB.out.row_kept gr hUb (by decide)
        have r' := ZB.out.row_kept gr hRb (by decide)
        have k' := VO.kept ZB.out gr KB.out (by decide)
        have xs : Xt u w' (w'.setCell ⟨u, 2, none⟩ v') := Xt.set (Gw.refl _) 2 _
        have er : List.range' num (j + 1) = List.range' num j ++ [z] := by rw [List.range'_1_concat, hz]
        refine ⟨u', by simp [World.setCell, Array.getElem?_modify, u'], by rw [er]; exact o'.xt xs u' (by decide), k'.xt xs u' (by decide), (xs.block _ (Array.getElem?_eq_some_iff.1 r').1 hru).trans r', Xt.below (BB.out.trans b') xs HUB.out⟩)
      have HLT := Lib.hid hlt
      have hjb : (j : Int) ≤ 1000 := by omega
      have i1 : (j : Int) < (m : Int) := by omega
      have LZ := Lib.hid (show (List.range' num j).length ≤ 1000000 by simp; omega)
      have BS := Lib.hid (show w.heap.size ≤ Wb.heap.size from Nat.le_trans hB.size (Below.size gb))
      have HWB := Lib.hid hWb
      clear hU hZ hK hR hB hUb hRb gb cb hlt hj hz hWb
      go_wp2_with (at_builtin; rw [HWB.out]; go_loud (refine vk_append (by rfl) (.tmp 38) (.tmp 42) (by rfl) w.heap.size zv (List.range' num j) (by rfl) ZB.out wr.heap.size z (by rfl) CB.out LZ.out BS.out ?_; intro v' w' o' b' gr; obtain ⟨u', s1, s2, s3, s4, s5⟩ := STEP.out v' w' o' b' gr; obtain ⟨Z', c', hv', -, -⟩ := o'.ints; obtain ⟨ln, hln⟩ : ∃ ln, (List.range' num j ++ [z]).length = ln := ⟨_, rfl⟩; rw [hln] at hv'; subst hv'; have S1 := Lib.hid s1; have S2 := Lib.hid s2; have S3 := Lib.hid s3; have S4 := Lib.hid s4; have S5 := Lib.hid s5; have q2 := (cell3 u').2.2; have f2 : w'.frozen? ⟨u, 2, none⟩ = false := (by simp [World.frozen?, u']); clear s1 s2 s3 s4 s5 o' b' gr u'))
      go_roundw
      case rel => exact ⟨j + 1, _, by go_num, HLT.out, S1.out, S2.out, S3.out, S4.out, S5.out⟩
      case measure => have := HLT.out; simp [intOf]; omega
    · obtain rfl : j = m := by omega
      have i1 : ¬ (j : Int) < (j : Int) := by omega
      obtain ⟨d0, d1, d2⟩ := cell3 hU
      obtain ⟨r0, r1, r2⟩ := cell3 hR
      have f0 : wr.frozen? ⟨w.heap.size, 0, none⟩ = false := by simp [World.frozen?, hR]
      have f1 : wr.frozen? ⟨w.heap.size, 1, none⟩ = false := by simp [World.frozen?, hR]
      have f2 : wr.frozen? ⟨w.heap.size, 2, none⟩ = false := by simp [World.frozen?, hR]
      have e1 : wr.cell? ⟨g, 1, none⟩ = some (.slice C j e) := by
        have h9 := K1.out
        rw [HM.out] at h9
        exact keep_below h9 hB
      obtain ⟨Z', c', hv', -, -⟩ := hZ.ints
      obtain ⟨ln, hln⟩ : ∃ ln, (List.range' num j).length = ln := ⟨_, rfl⟩
      rw [hln] at hv'
      subst hv'
      have VC := Lib.hid (show VB wr C j (kids.map Kid.v) by have h9 := H3.out; rw [HM.out] at h9; exact h9.below' hB)
      have FIN := Lib.hid (show ∀ a b d, let X := ((wr.setCell ⟨w.heap.size, 0, none⟩ a).setCell ⟨w.heap.size, 1, none⟩ b).setCell ⟨w.heap.size, 2, none⟩ d
        X.heap[w.heap.size]? = some (.cells #[a, b, d] 62 (0, 0)) ∧ VO elS w.heap.size X (.slice A8 ks.length c8) (ks.map Value.string) ∧ VO elK w.heap.size X (.slice Z' ln c') (intsV (List.range' num j)) ∧ VB X C j (kids.map Kid.v) ∧ Below w.heap.size w X from fun a b d => by
        have x1 : Xt w.heap.size wr (wr.setCell ⟨w.heap.size, 0, none⟩ a) := Xt.set (Gw.refl _) 0 _
        have x2 : Xt w.heap.size (wr.setCell ⟨w.heap.size, 0, none⟩ a) ((wr.setCell ⟨w.heap.size, 0, none⟩ a).setCell ⟨w.heap.size, 1, none⟩ b) := Xt.set (Gw.refl _) 1 _
        have x3 : Xt w.heap.size ((wr.setCell ⟨w.heap.size, 0, none⟩ a).setCell ⟨w.heap.size, 1, none⟩ b) (((wr.setCell ⟨w.heap.size, 0, none⟩ a).setCell ⟨w.heap.size, 1, none⟩ b).setCell ⟨w.heap.size, 2, none⟩ d) := Xt.set (Gw.refl _) 2 _
        have x := (x1.trans x2).trans x3
        exact ⟨by simp [World.setCell, Array.getElem?_modify, hR], hK.xt x hR (by decide), hZ.xt x hR (by decide), x.vb ⟨_, _, _, hR, by decide, by decide, by decide⟩ VC.out, Xt.below hB x (Nat.le_refl _)⟩)
      have hgl := World.block_lt_of_cell? w ⟨g, 1, none⟩ K1.out
      have hg1 : g ≠ w.heap.size := by simp at hgl; omega
      have hg2 : w.heap.size ≠ g := by omega
      clear hU hZ hK hR hB hlt hj VC hgl
      obtain ⟨x1, x2, x3, x4, x5⟩ := FIN.out (.bool false) (.slice A8 ks.length c8) (.slice Z' ln c')
      have X0 := Lib.hid (cell3 x1)
      have XL := Lib.hid hln
      have XM := Lib.hid (show (kids.map Kid.v).length = j by rw [List.length_map]; exact HM.out)
      have X2 := Lib.hid (show DescIs w ⟨false, ks, List.range' num kids.length⟩ (kids.map Kid.v) (.returned (.tuple #[.agg #[.bool false, .slice A8 ks.length c8, .slice Z' ln c'], .slice C j e])) (((wr.setCell ⟨w.heap.size, 0, none⟩ (.bool false)).setCell ⟨w.heap.size, 1, none⟩ (.slice A8 ks.length c8)).setCell ⟨w.heap.size, 2, none⟩ (.slice Z' ln c')).drew from
        ⟨_, _, C, e, by rw [XM.out], x2.drew, by rw [HM.out]; exact x3.drew, by rw [XM.out]; exact x4.drew, by rw [XM.out, ← HM.out]; exact H4.out, x5.drew⟩)
      clear x1 x2 x3 x4 x5 FIN hln
      go_wp2
      go_region_with (fail)
      all_goals go_wp2
      all_goals exact bodyPost_ret (v := .tuple #[.agg #[.bool false, .slice A8 ks.length c8, .slice Z' ln c'], .slice C j e]) (by simp [results, Try.results46, go_sem, X0.out.1, X0.out.2.1, X0.out.2.2]) rfl X2.out
end Go.Proofs.Ytlhpoliiojekeaa
