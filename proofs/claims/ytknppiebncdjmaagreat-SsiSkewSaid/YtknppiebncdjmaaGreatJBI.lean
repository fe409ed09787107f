import Derived.Test.YtknppiebncdjmaaGreatJBH
import Derived.Test.YtknppiebncdjmaaGreatJAN
import Derived.Test.YtknppiebncdjmaaGreatJAM
import Derived.Test.YtknppiebncdjmaaGreatJBG
set_option linter.unusedVariables false
namespace Go.Proofs.YtknppiebncdjmaaGreat
set_option maxRecDepth 100000
open Go.RowKit

section
variable {E : SEl} {base n : Nat} {w w' : World} {v : Value} {vs : List Value}
theorem so_stepW (hE : E.Ok) {ops : Array Oper} {o : Oper} {a : Act} {K : Act → World → Prop} {Q : Exit → Act → World → Prop} {Z : Prop} (hgd : o.guard = none) (s x : Operand)
    (ho : o.op = .call { callee := .builtin .append, args := #[s, x], argTypes := #[E.t, E.t] })
    (v : Value) (hs : a.eval s = v) (hown : SO E base w v n vs) (A : Option Addr) (m c : Nat) (us : List Value) (hx : a.eval x = .slice A m c) (hr : SB w A (E.s * m) us)
    (hsz : (n + m) * E.b ≤ 140737488355328) (h63 : n + m ≤ maxLen) (hbase : base ≤ w.heap.size)
    (h : ∀ v' w', SO E base w' v' (n + m) (vs ++ us) → Below base w w' → K (a.put o.dst v') w') : if Region.wanted o (yielded ops a.tmps) = true then Oper.wp Tryz.prog o a w K Q else Z := by
  rw [if_pos (by simp [Region.wanted, hgd])]
  exact wp_soW hE s x ho v hs hown A m c us hx hr hsz h63 hbase h
end
theorem grown_keep {w w' : World} {row : Option Nat} (hg : w.grownBy w' row) {a : Addr} {v : Value} (hc : w.cell? a = some v) (hne : some a.block ≠ row) : w'.cell? a = some v := (hg.cell_far a (World.block_lt_of_cell? w a hc) hne).trans hc
theorem sb_dep (X : World) (d : Int × Int) : SB (X.alloc (.cells #[.int .i64 d.1, .int .i64 d.2] 133)) (some ⟨X.heap.size, 0, none⟩) (seE.s * 1) (cellsF depC [d]) := by
  refine ⟨rfl, ?_, fun _ => ⟨X.heap.size, 0, rfl, fun j u hj => ?_⟩⟩
  · intro u hu
    simp [cellsF, depC] at hu
    rcases hu with rfl | rfl <;> rfl
  · rw [cell_of_row _ _ _ _ _ _ (heap_alloc_new X (.cells #[.int .i64 d.1, .int .i64 d.2] 133))]
    simpa [cellsF, depC] using hj
def depsTo (vs : List Ver10) (rs : List Run10) (j : Nat) : List (Int × Int) := ((rs.take j).zipIdx).flatMap (depRun vs)
theorem depsTo_next {vs : List Ver10} {rs : List Run10} {j : Nat} {r : Run10} (hr : rs[j]? = some r) : depsTo vs rs (j + 1) = depsTo vs rs j ++ depRun vs (r, j) := by
  unfold depsTo
  have hj := (List.getElem?_eq_some_iff.1 hr).1
  rw [List.take_add_one, hr, Option.toList_some, List.zipIdx_append, List.flatMap_append]
  congr 1
  simp [List.length_take, Nat.min_eq_left (Nat.le_of_lt hj)]
theorem depsTo_all (vs : List Ver10) (rs : List Run10) : depsTo vs rs rs.length = rs.zipIdx.flatMap (depRun vs) := by unfold depsTo; rw [List.take_length]
theorem flat_take {α β : Type} (f : α → List β) {l : List α} {j : Nat} {x : α} (hx : l[j]? = some x) : (l.take (j + 1)).flatMap f = (l.take j).flatMap f ++ f x := by
  rw [List.take_add_one, hx, Option.toList_some, List.flatMap_append]
  simp
theorem flat_take_le {α β : Type} (f : α → List β) (l : List α) (j : Nat) : ((l.take j).flatMap f).length ≤ (l.flatMap f).length := by
  conv => rhs; rw [← List.take_append_drop j l, List.flatMap_append, List.length_append]
  omega
theorem depsTo_le (vs : List Ver10) (rs : List Run10) (j : Nat) : (depsTo vs rs j).length ≤ (rs.zipIdx.flatMap (depRun vs)).length := by
  unfold depsTo
  have h : (rs.take j).zipIdx = rs.zipIdx.take j := by
    refine List.ext_getElem? fun i => ?_
    rw [List.getElem?_take, List.getElem?_zipIdx, List.getElem?_zipIdx, List.getElem?_take]
    split <;> simp
  rw [h]
  exact flat_take_le _ _ _
theorem so_one {base : Nat} {w : World} {v : Value} {D : List (Int × Int)} {x : Int × Int} (h : SO seE base w v (D.length + 1) (cellsF depC D ++ cellsF depC [x])) : SO seE base w v (D ++ [x]).length (cellsF depC (D ++ [x])) := by
  rw [cellsF_app, List.length_append]; exact h
theorem so_two {base : Nat} {w : World} {v : Value} {D : List (Int × Int)} {x y : Int × Int} (h : SO seE base w v (D.length + 1 + 1) (cellsF depC D ++ cellsF depC [x] ++ cellsF depC [y])) : SO seE base w v (D ++ [x, y]).length (cellsF depC (D ++ [x, y])) := by
  have e : D ++ [x, y] = (D ++ [x]) ++ [y] := by simp
  rw [e, cellsF_app, cellsF_app, List.length_append, List.length_append]; exact h
set_option maxHeartbeats 16000000 in
theorem wDeps {w : World} {p : Nat} {A2 A3 : Option Addr} {c2 c3 : Nat} {vs : List Ver10} {ms : List RunM} (hc2 : w.cell? ⟨p, 2, none⟩ = some (.slice A2 vs.length c2)) (h2 : SB w A2 (5 * vs.length) (cellsF verC vs))
    (hc3 : w.cell? ⟨p, 3, none⟩ = some (.slice A3 ms.length c3)) (h3 : SB w A3 (8 * ms.length) (cellsF runC ms)) (hrd : ∀ m ∈ ms, SB w m.ra (3 * m.r.reads.length) (cellsF redC m.r.reads) ∧ m.r.reads.length ≤ 4000000000000)
    (hn2 : vs.length ≤ 1599289640354) (hn3 : ms.length ≤ 1048576) (hD : (depsP vs (ms.map (·.r))).length ≤ 4000000000000)
    (hok : ∀ m ∈ ms, m.r.com = true → ∀ q ∈ m.r.reads, q.2 < (vs.length : Int) ∧ (0 ≤ q.2 → verNext vs q.2 < (vs.length : Int))) (hov : ∀ v ∈ vs, v.next < (vs.length : Int)) :
    Calls Tryz.prog 24 #[.pointer (some ⟨p, 0, none⟩)] w fun e w' => ∃ v, e = .returned v ∧ SO seE w.heap.size w' v (depsP vs (ms.map (·.r))).length (cellsF depC (depsP vs (ms.map (·.r)))) ∧ Below w.heap.size w w' := by
  obtain ⟨rs, hrs⟩ : ∃ rs, ms.map (·.r) = rs := ⟨_, rfl⟩
  rw [hrs] at hD ⊢
  have C2 := Lib.hid hc2
  have H2 := Lib.hid h2
  have H3 := Lib.hid h3
  have HRD := Lib.hid hrd
  have N2 := Lib.hid hn2
  have N3 := Lib.hid hn3
  have HD := Lib.hid hD
  have OK := Lib.hid hok
  have OV := Lib.hid hov
  have HRS := Lib.hid hrs
  have HDL := Lib.hid (show ∀ j, (depsTo vs rs j).length ≤ 4000000000000 by
    intro j
    have h1 := depsTo_le vs rs j
    unfold depsP at hD
    rw [List.length_append] at hD
    omega)
  clear hc2 h2 h3 hrd hn2 hn3 hD hok hov hrs
  go_enter Tryz.func24, Tryz.ntmps24
  go_upto_region 3 with fail
  clear hc3
  go_loopw [3, 16] (fun lv i wr => ∃ j : Nat, i = .int .i64 (j : Nat) ∧ j ≤ ms.length ∧ SO seE w.heap.size wr lv (depsTo vs rs j).length (cellsF depC (depsTo vs rs j)) ∧ Below w.heap.size w wr) (fun _ i _ => ms.length - (intOf i).toNat)
  case atStart => exact ⟨0, rfl, Nat.zero_le _, SO.nil _ _ _, Below.refl _ _⟩
  case round =>
    rename World => wr
    obtain ⟨j, rfl, hj, ho, hb⟩ := hrel
    by_cases hlt : j < ms.length
    · obtain ⟨v, hv⟩ : ∃ v, ms[j]? = some v := ⟨_, List.getElem?_eq_getElem hlt⟩
      have hr : rs[j]? = some v.r := by rw [← HRS.out, List.getElem?_map, hv]; rfl
      have HT := Lib.hid (depsTo_next (vs := vs) hr)
      have HL1 := Lib.hid (HDL.out (j + 1))
      have HL0 := Lib.hid (HDL.out j)
      obtain ⟨D, hD⟩ : ∃ D, depsTo vs rs j = D := ⟨_, rfl⟩
      rw [hD] at HT ho HL0
      have hvm := List.mem_of_getElem? hv
      have HV := Lib.hid (HRD.out v hvm)
      have HOK := Lib.hid (OK.out v hvm)
      obtain ⟨g, o, rfl, hc⟩ := (H3.out.gw hb).el runC_len (by omega) hv
      have c0 : wr.cell? ⟨g, o + j * 8, none⟩ = some (.int .i64 v.r.tx) := hc 0 _ rfl
      have c1 : wr.cell? ⟨g, o + j * 8 + 1, none⟩ = some (.int .i64 v.r.snap) := hc 1 _ rfl
      have c2 : wr.cell? ⟨g, o + j * 8 + 2, none⟩ = some (.int .i64 v.r.begun) := hc 2 _ rfl
      have c3 : wr.cell? ⟨g, o + j * 8 + 3, none⟩ = some (.int .i64 v.r.ended) := hc 3 _ rfl
      have c4 : wr.cell? ⟨g, o + j * 8 + 4, none⟩ = some (.bool v.r.com) := hc 4 _ rfl
      have c5 : wr.cell? ⟨g, o + j * 8 + 5, none⟩ = some (.bool v.r.over) := hc 5 _ rfl
      have c6 : wr.cell? ⟨g, o + j * 8 + 6, none⟩ = some (.slice v.ra v.r.reads.length v.rc) := hc 6 _ rfl
      have c7 : wr.cell? ⟨g, o + j * 8 + 7, none⟩ = some (.slice v.wa v.r.writes.length v.wc) := hc 7 _ rfl
      obtain ⟨⟨vt, vsn, vb, ve, vc, vo, vr, vw⟩, ra, rc, wa, wc⟩ := v
      dsimp only at c0 c1 c2 c3 c4 c5 c6 c7 HT HV HOK
      obtain ⟨Y, hY⟩ : ∃ Y, wr.alloc (.cells #[.int .i64 vt, .int .i64 vsn, .int .i64 vb, .int .i64 ve, .bool vc, .bool vo, .slice ra vr.length rc, .slice wa vw.length wc] 70) = Y := ⟨_, rfl⟩
      have HY := Lib.hid hY
      have gY : Below wr.heap.size wr Y := by rw [← hY]; exact alloc_below10 _ _
      have rY : Y.heap[wr.heap.size]? = some (.cells #[.int .i64 vt, .int .i64 vsn, .int .i64 vb, .int .i64 ve, .bool vc, .bool vo, .slice ra vr.length rc, .slice wa vw.length wc] 70 (0, 0)) := by rw [← hY]; exact heap_alloc_new _ _
      have y4 : Y.cell? ⟨wr.heap.size, 4, none⟩ = some (.bool vc) := cell_of_row _ _ 4 _ _ _ rY
      have y6 : Y.cell? ⟨wr.heap.size, 6, none⟩ = some (.slice ra vr.length rc) := cell_of_row _ _ 6 _ _ _ rY
      have HO := Lib.hid (ho.below gY)
      have HB := Lib.hid (below_next hb gY)
      have i1 : (j : Int) < (ms.length : Int) := by omega
      have l1 : (j : Int) ≤ 1048576 := by have := N3.out; omega
      have HLT := Lib.hid hlt
      clear hj hlt hv hc gY rY hY hb ho hr hvm hD
      go_upto_region 5 with fail
      rw [HY.out]
      clear c0 c1 c2 c3 c4 c5 c6 c7
      cases vc
      · have HT2 := Lib.hid (show depsTo vs rs (j + 1) = D by rw [HT.out]; simp [depRun])
        go_wp2
        go_roundw
        case rel => exact ⟨j + 1, by go_num, HLT.out, by rw [HT2.out]; exact HO.out, HB.out⟩
        case measure => have := HLT.out; simp [intOf]; omega
      · have HT2 := Lib.hid (show depsTo vs rs (j + 1) = D ++ vr.flatMap (depRead vs (j : Int)) by rw [HT.out]; simp [depRun])
        go_upto_region 7 with fail
        go_loopw [3, 27] (fun lv i wz => ∃ q : Nat, i = .int .i64 (q : Nat) ∧ q ≤ vr.length ∧ SO seE w.heap.size wz lv (D ++ (vr.take q).flatMap (depRead vs (j : Int))).length (cellsF depC (D ++ (vr.take q).flatMap (depRead vs (j : Int)))) ∧ Below w.heap.size w wz) (fun _ i _ => vr.length - (intOf i).toNat)
        case atStart => exact ⟨0, rfl, Nat.zero_le _, by simpa using HO.out, HB.out⟩
        case round =>
          rename World => wz
          clear HO HB
          obtain ⟨q, rfl, hq, ho, hb⟩ := hrel
          by_cases hql : q < vr.length
          · obtain ⟨⟨⟨rt, rk⟩, s⟩, hx⟩ : ∃ x, vr[q]? = some x := ⟨_, List.getElem?_eq_getElem hql⟩
            have HN := Lib.hid (flat_take (depRead vs (j : Int)) hx)
            have HLE := Lib.hid (show (D ++ (vr.take (q + 1)).flatMap (depRead vs (j : Int))).length ≤ 4000000000000 by
              have h1 := HL1.out
              rw [HT2.out, List.length_append] at h1
              have h2 := flat_take_le (depRead vs (j : Int)) vr (q + 1)
              rw [List.length_append]
              omega)
            obtain ⟨D1, hD1⟩ : ∃ d, D ++ (vr.take q).flatMap (depRead vs (j : Int)) = d := ⟨_, rfl⟩
            rw [hD1] at ho
            have HN2 := Lib.hid (show D ++ (vr.take (q + 1)).flatMap (depRead vs (j : Int)) = D1 ++ depRead vs (j : Int) ((rt, rk), s) by rw [HN.out, ← List.append_assoc, hD1])
            have HX := Lib.hid (HOK.out (by trivial) _ (List.mem_of_getElem? hx))
            obtain ⟨gr, orr, rfl, hc⟩ := (HV.out.1.gw hb).el redC_len (by omega) hx
            have c0 : wz.cell? ⟨gr, orr + q * 3, none⟩ = some (.string rt) := hc 0 _ rfl
            have c1 : wz.cell? ⟨gr, orr + q * 3 + 1, none⟩ = some (.string rk) := hc 1 _ rfl
            have c2 : wz.cell? ⟨gr, orr + q * 3 + 2, none⟩ = some (.int .i64 s) := hc 2 _ rfl
            obtain ⟨Z, hZ⟩ : ∃ Z, wz.alloc (.cells #[.string rt, .string rk, .int .i64 s] 135) = Z := ⟨_, rfl⟩
            have HZ := Lib.hid hZ
            have gZ : Below wz.heap.size wz Z := by rw [← hZ]; exact alloc_below10 _ _
            have rZ : Z.heap[wz.heap.size]? = some (.cells #[.string rt, .string rk, .int .i64 s] 135 (0, 0)) := by rw [← hZ]; exact heap_alloc_new _ _
            have z0 : Z.cell? ⟨wz.heap.size, 0, none⟩ = some (.string rt) := cell_of_row _ _ 0 _ _ _ rZ
            have z1 : Z.cell? ⟨wz.heap.size, 1, none⟩ = some (.string rk) := cell_of_row _ _ 1 _ _ _ rZ
            have z2 : Z.cell? ⟨wz.heap.size, 2, none⟩ = some (.int .i64 s) := cell_of_row _ _ 2 _ _ _ rZ
            have HO := Lib.hid (ho.below gZ)
            have HB := Lib.hid (below_next hb gZ)
            have HSZ := Lib.hid (show w.heap.size ≤ Z.heap.size from (below_next hb gZ).size)
            have i2 : (q : Int) < (vr.length : Int) := by omega
            have l2 : (q : Int) ≤ 4000000000000 := by have := HV.out.2; omega
            have HQL := Lib.hid hql
            have p2 := keep_below C2.out (below_next hb gZ)
            have HU := Lib.hid (fun k hk => ho.own.lt k hk)
            clear hq hql hx hc gZ rZ hZ hb ho hD1
            go_upto_region 10 with fail
            rw [HZ.out]
            clear c0 c1 c2
            by_cases hs : 0 ≤ s
            · obtain ⟨k, rfl⟩ : ∃ k : Nat, s = (k : Int) := ⟨s.toNat, by omega⟩
              obtain ⟨hx1, hx2⟩ := HX.out
              obtain ⟨u, hu⟩ : ∃ u, vs[k]? = some u := ⟨_, List.getElem?_eq_getElem (by omega)⟩
              obtain ⟨g2, o2, eA, hcv⟩ := H2.out.el verC_len (by omega) hu
              have HV4 := Lib.hid (show w.cell? ⟨g2, o2 + k * 5 + 4, none⟩ = some (.int .i64 u.next) from hcv 4 _ rfl)
              have v3 : Z.cell? ⟨g2, o2 + k * 5 + 3, none⟩ = some (.int .i64 u.by_) := keep_below (hcv 3 _ rfl) HB.out
              subst eA
              have ik : (k : Int) < (vs.length : Int) := by omega
              have ik' : (0 : Int) ≤ (k : Int) := by omega
              have HDR := Lib.hid (show depRead vs (j : Int) ((rt, rk), (k : Int)) = (u.by_, (j : Int)) :: (if 0 ≤ u.next then [((j : Int), verBy vs u.next)] else []) by
                unfold depRead
                simp only
                rw [if_pos ik']
                unfold verBy verNext
                rw [Int.toNat_natCast, hu]
                rfl)
              have HNX := Lib.hid (show u.next < (vs.length : Int) by
                have := hx2 ik'
                unfold verNext at this
                rw [Int.toNat_natCast, hu] at this
                exact this)
              have HLN := Lib.hid (show D1.length + 1 + (if 0 ≤ u.next then 1 else 0) ≤ 4000000000000 by
                have h1 := HLE.out
                rw [HN2.out, HDR.out, List.length_append, List.length_cons] at h1
                split at h1 <;> rename_i hh
                · rw [if_pos hh]; simp only [List.length_singleton] at h1; omega
                · rw [if_neg hh]; simp only [List.length_nil] at h1; omega)
              have HSB := Lib.hid (sb_dep Z (u.by_, (j : Int)))
              clear hcv hu hx1 hx2
              go_upto_region 11 with fail
              go_region_law (refine so_stepL seE_ok (by rfl) (.tmp 34) (.tmp 46) (by rfl) _ (by rfl) ((HO.out.alloc _).drew) Z.heap.size 1 (cellsF depC [(u.by_, (j : Int))]) (by rfl) (HSB.out.gw (Below.refl _ _).drew) (by have := HLN.out; show _ * 16 ≤ _; omega) (by have := HLN.out; simp only [maxLen]; omega) (by have := HSZ.out; simp; omega) ?_; intro g4 c4' w4 o4 b4 l4; have O4 := Lib.hid o4; have B4 := Lib.hid b4; clear o4 b4 l4)
              all_goals
                have GW := (Below.refl w.heap.size _).grown B4.out (by have := HSZ.out; simp; omega) (fun k hk => (HU.out k hk).1)
                have BW4 := Lib.hid (show Below w.heap.size w w4 from HB.out.trans (((alloc_below10 Z _).drew.mono HSZ.out).trans GW))
                have zz2 := grown_keep B4.out (keep_below z2 (alloc_below10 Z _).drew) (fun e => by have := (HU.out _ e.symm).2; simp at this)
                have p2' := keep_below C2.out BW4.out
                have v4' := keep_below HV4.out BW4.out
                have HZ4 := Lib.hid (show w.heap.size ≤ w4.heap.size from BW4.out.size)
                clear z0 z1 z2 p2 v3 GW HB HO
                go_upto_region 12 with fail
                go_region
                all_goals
                  by_cases hnx : 0 ≤ u.next
                  · obtain ⟨m, hm⟩ : ∃ m : Nat, u.next = (m : Int) := ⟨u.next.toNat, by omega⟩
                    have him := HNX.out
                    rw [hm] at him
                    obtain ⟨uu, huu⟩ : ∃ uu, vs[m]? = some uu := ⟨_, List.getElem?_eq_getElem (by omega)⟩
                    have HVB := Lib.hid (show verBy vs u.next = uu.by_ by unfold verBy; rw [hm, Int.toNat_natCast, huu]; rfl)
                    obtain ⟨g5, o5, e5, hcv5⟩ := H2.out.el verC_len (by omega) huu
                    cases e5
                    have v5 : w4.drew.cell? ⟨g2, o2 + m * 5 + 3, none⟩ = some (.int .i64 uu.by_) := keep_below (hcv5 3 _ rfl) BW4.out.drew
                    have im' : (0 : Int) ≤ (m : Int) := by omega
                    have hm' : (u.next ≥ 0) = True := by simp [hnx]
                    have HFIN := Lib.hid (show depRead vs (j : Int) ((rt, rk), (k : Int)) = [(u.by_, (j : Int)), ((j : Int), uu.by_)] by rw [HDR.out, if_pos hnx, HVB.out])
                    have HLN2 := Lib.hid (show D1.length + 1 + 1 ≤ 4000000000000 by have := HLN.out; rw [if_pos hnx] at this; exact this)
                    have p3' := keep_below C2.out BW4.out.drew
                    have HSB5 := Lib.hid (sb_dep w4.drew ((j : Int), uu.by_))
                    rw [hm]
                    clear hcv5 huu hnx
                    go_wp2_with (at_builtin; go_loud (refine so_appendW seE_ok (by rfl) (.tmp 63) (.tmp 74) (by rfl) _ (by rfl) (O4.out.drew.alloc _) (some ⟨w4.heap.size, 0, none⟩) 1 1 (cellsF depC [((j : Int), uu.by_)]) (by rfl) HSB5.out (by have := HLN2.out; show _ * 16 ≤ _; omega) (by have := HLN2.out; simp only [maxLen]; omega) (by have := HZ4.out; simp; omega) ?_; intro v6 w6 o6 b6; have O6 := Lib.hid o6; have B6 := Lib.hid (((BW4.out.drew).alloc (by simpa using HZ4.out) _).trans b6); clear o6 b6))
                    go_roundw
                    case rel => exact ⟨q + 1, by go_num, HQL.out, by rw [HN2.out, HFIN.out]; exact so_two O6.out, B6.out⟩
                    case measure => have := HQL.out; simp [intOf]; omega
                  · have HFIN := Lib.hid (show depRead vs (j : Int) ((rt, rk), (k : Int)) = [(u.by_, (j : Int))] by rw [HDR.out, if_neg hnx])
                    go_wp2
                    go_roundw
                    case rel => exact ⟨q + 1, by go_num, HQL.out, by rw [HN2.out, HFIN.out]; exact so_one O4.out.drew, BW4.out.drew⟩
                    case measure => have := HQL.out; simp [intOf]; omega
            · have HF1 := Lib.hid (wFirst10 p2 (H2.out.gw HB.out) N2.out (rt, rk))
              obtain ⟨f, hf⟩ : ∃ f, firstP vs (rt, rk) = f := ⟨_, rfl⟩
              rw [hf] at HF1
              have HDR := Lib.hid (show depRead vs (j : Int) ((rt, rk), s) = if 0 ≤ f then [((j : Int), verBy vs f)] else [] by
                unfold depRead
                simp only
                rw [if_neg hs, hf])
              have spec := first_is vs (rt, rk)
              rw [hf] at spec
              have HSP := Lib.hid spec
              have hs' : ¬ (0 ≤ s) := hs
              clear spec hf hs
              go_upto_region 14 with (go_at_call 70; go_loud (refine HF1.out.mono ?_; rintro e w5 ⟨rfl, b5⟩; have B5 := Lib.hid b5; clear b5))
              have BW5 := Lib.hid (show Below w.heap.size w w5 from HB.out.trans (B5.out.mono HSZ.out))
              have HO5 := Lib.hid (HO.out.below B5.out)
              clear z0 z1 z2 p2 HO HB
              rcases HSP.out with ⟨rfl, -⟩ | ⟨k, u, rfl, hu, -⟩
              · have HFIN := Lib.hid (show depRead vs (j : Int) ((rt, rk), s) = [] by rw [HDR.out, if_neg (by omega)])
                go_wp2
                go_roundw
                case rel => exact ⟨q + 1, by go_num, HQL.out, by rw [HN2.out, HFIN.out, List.append_nil]; exact HO5.out, BW5.out⟩
                case measure => have := HQL.out; simp [intOf]; omega
              · have hkl := (List.getElem?_eq_some_iff.1 hu).1
                have HVB := Lib.hid (show verBy vs (k : Int) = u.by_ by unfold verBy; rw [Int.toNat_natCast, hu]; rfl)
                have HFIN := Lib.hid (show depRead vs (j : Int) ((rt, rk), s) = [((j : Int), u.by_)] by rw [HDR.out, if_pos (by omega), HVB.out])
                have HLN2 := Lib.hid (show D1.length + 1 ≤ 4000000000000 by have h1 := HLE.out; rw [HN2.out, HFIN.out, List.length_append] at h1; simpa using h1)
                obtain ⟨g5, o5, e5, hcv5⟩ := H2.out.el verC_len (by omega) hu
                subst e5
                have v5 : w5.cell? ⟨g5, o5 + k * 5 + 3, none⟩ = some (.int .i64 u.by_) := keep_below (hcv5 3 _ rfl) BW5.out
                have p3' := keep_below C2.out BW5.out
                have ik : (k : Int) < (vs.length : Int) := by omega
                have ik' : (0 : Int) ≤ (k : Int) := by omega
                have HSB5 := Lib.hid (sb_dep w5 ((j : Int), u.by_))
                have HZ5 := Lib.hid (show w.heap.size ≤ w5.heap.size from BW5.out.size)
                clear hcv5 hu hkl
                go_wp2_with (at_builtin; go_loud (refine so_appendW seE_ok (by rfl) (.tmp 63) (.tmp 74) (by rfl) _ (by rfl) (HO5.out.alloc _) (some ⟨w5.heap.size, 0, none⟩) 1 1 (cellsF depC [((j : Int), u.by_)]) (by rfl) HSB5.out (by have := HLN2.out; show _ * 16 ≤ _; omega) (by have := HLN2.out; simp only [maxLen]; omega) (by have := HZ5.out; simp; omega) ?_; intro v6 w6 o6 b6; have O6 := Lib.hid o6; have B6 := Lib.hid ((BW5.out.alloc HZ5.out _).trans b6); clear o6 b6))
                go_roundw
                case rel => exact ⟨q + 1, by go_num, HQL.out, by rw [HN2.out, HFIN.out]; exact so_one O6.out, B6.out⟩
                case measure => have := HQL.out; simp [intOf]; omega
          · obtain rfl : q = vr.length := by omega
            have i2 : ¬ (vr.length : Int) < (vr.length : Int) := by omega
            rw [List.take_length] at ho
            have HO2 := Lib.hid ho
            have HB2 := Lib.hid hb
            clear hq hql ho hb
            go_wp2
            go_roundw
            case rel => exact ⟨j + 1, by go_num, HLT.out, by rw [HT2.out]; exact HO2.out, HB2.out⟩
            case measure => have := HLT.out; simp [intOf]; omega
    · obtain rfl : j = ms.length := by omega
      have i1 : ¬ (ms.length : Int) < (ms.length : Int) := by omega
      have hlen : rs.length = ms.length := by rw [← HRS.out, List.length_map]
      rw [← hlen, depsTo_all] at ho
      obtain ⟨D, hD⟩ : ∃ D, rs.zipIdx.flatMap (depRun vs) = D := ⟨_, rfl⟩
      rw [hD] at ho
      have HDD := Lib.hid (show depsP vs rs = D ++ vs.flatMap (depVer vs) by unfold depsP; rw [hD])
      have p2 := keep_below C2.out hb
      have HO := Lib.hid ho
      have HB := Lib.hid hb
      clear hj hlt hb ho hD hlen
      go_upto_region 19 with fail
      clear p2
      go_loopw [3, 83] (fun lv i wz => ∃ q : Nat, i = .int .i64 (q : Nat) ∧ q ≤ vs.length ∧ SO seE w.heap.size wz lv (D ++ (vs.take q).flatMap (depVer vs)).length (cellsF depC (D ++ (vs.take q).flatMap (depVer vs))) ∧ Below w.heap.size w wz) (fun _ i _ => vs.length - (intOf i).toNat)
      case atStart => exact ⟨0, rfl, Nat.zero_le _, by simpa using HO.out, HB.out⟩
      case round =>
        rename World => wz
        clear HO HB
        obtain ⟨q, rfl, hq, ho, hb⟩ := hrel
        by_cases hql : q < vs.length
        · obtain ⟨v, hv⟩ : ∃ v, vs[q]? = some v := ⟨_, List.getElem?_eq_getElem hql⟩
          have HN := Lib.hid (flat_take (depVer vs) hv)
          have HLE := Lib.hid (show (D ++ (vs.take (q + 1)).flatMap (depVer vs)).length ≤ 4000000000000 by
            have h1 := HD.out
            rw [HDD.out, List.length_append] at h1
            have h2 := flat_take_le (depVer vs) vs (q + 1)
            rw [List.length_append]
            omega)
          obtain ⟨D1, hD1⟩ : ∃ d, D ++ (vs.take q).flatMap (depVer vs) = d := ⟨_, rfl⟩
          rw [hD1] at ho
          have HN2 := Lib.hid (show D ++ (vs.take (q + 1)).flatMap (depVer vs) = D1 ++ depVer vs v by rw [HN.out, ← List.append_assoc, hD1])
          have HX := Lib.hid (OV.out v (List.mem_of_getElem? hv))
          obtain ⟨g, o, rfl, hc⟩ := H2.out.el verC_len (by omega) hv
          have c0 : wz.cell? ⟨g, o + q * 5, none⟩ = some (.string v.at_.1) := keep_below (hc 0 _ rfl) hb
          have c1 : wz.cell? ⟨g, o + q * 5 + 1, none⟩ = some (.string v.at_.2) := keep_below (hc 1 _ rfl) hb
          have c2 : wz.cell? ⟨g, o + q * 5 + 2, none⟩ = some (.int .i64 v.num) := keep_below (hc 2 _ rfl) hb
          have c3 : wz.cell? ⟨g, o + q * 5 + 3, none⟩ = some (.int .i64 v.by_) := keep_below (hc 3 _ rfl) hb
          have c4 : wz.cell? ⟨g, o + q * 5 + 4, none⟩ = some (.int .i64 v.next) := keep_below (hc 4 _ rfl) hb
          obtain ⟨⟨vt, vk⟩, vn, vb, vx⟩ := v
          dsimp only at c0 c1 c2 c3 c4 HX
          obtain ⟨Z, hZ⟩ : ∃ Z, wz.alloc (.cells #[.string vt, .string vk, .int .i64 vn, .int .i64 vb, .int .i64 vx] 130) = Z := ⟨_, rfl⟩
          have HZ := Lib.hid hZ
          have gZ : Below wz.heap.size wz Z := by rw [← hZ]; exact alloc_below10 _ _
          have rZ : Z.heap[wz.heap.size]? = some (.cells #[.string vt, .string vk, .int .i64 vn, .int .i64 vb, .int .i64 vx] 130 (0, 0)) := by rw [← hZ]; exact heap_alloc_new _ _
          have z3 : Z.cell? ⟨wz.heap.size, 3, none⟩ = some (.int .i64 vb) := cell_of_row _ _ 3 _ _ _ rZ
          have z4 : Z.cell? ⟨wz.heap.size, 4, none⟩ = some (.int .i64 vx) := cell_of_row _ _ 4 _ _ _ rZ
          have HO := Lib.hid (ho.below gZ)
          have HB := Lib.hid (below_next hb gZ)
          have HSZ := Lib.hid (show w.heap.size ≤ Z.heap.size from (below_next hb gZ).size)
          have i2 : (q : Int) < (vs.length : Int) := by omega
          have l2 : (q : Int) ≤ 1599289640354 := by have := N2.out; omega
          have HQL := Lib.hid hql
          have p2 := keep_below C2.out (below_next hb gZ)
          clear hq hql hv hc gZ rZ hZ hb ho hD1
          go_upto_region 21 with fail
          rw [HZ.out]
          clear c0 c1 c2 c3 c4
          by_cases hnx : 0 ≤ vx
          · obtain ⟨m, rfl⟩ : ∃ m : Nat, vx = (m : Int) := ⟨vx.toNat, by omega⟩
            have him := HX.out
            obtain ⟨uu, huu⟩ : ∃ uu, vs[m]? = some uu := ⟨_, List.getElem?_eq_getElem (by omega)⟩
            have HVB := Lib.hid (show verBy vs (m : Int) = uu.by_ by unfold verBy; rw [Int.toNat_natCast, huu]; rfl)
            obtain ⟨g5, o5, e5, hcv5⟩ := H2.out.el verC_len (by omega) huu
            cases e5
            have v5 : Z.cell? ⟨g, o + m * 5 + 3, none⟩ = some (.int .i64 uu.by_) := keep_below (hcv5 3 _ rfl) HB.out
            have im' : (0 : Int) ≤ (m : Int) := by omega
            have HFIN := Lib.hid (show depVer vs ⟨(vt, vk), vn, vb, (m : Int)⟩ = [(vb, uu.by_)] by unfold depVer; simp only; rw [if_pos im', HVB.out])
            have HLN2 := Lib.hid (show D1.length + 1 ≤ 4000000000000 by have h1 := HLE.out; rw [HN2.out, HFIN.out, List.length_append] at h1; simpa using h1)
            have HSB := Lib.hid (sb_dep Z (vb, uu.by_))
            clear hcv5 huu hnx
            go_upto_region 22 with fail
            go_region_law (refine so_stepW seE_ok (by rfl) (.tmp 90) (.tmp 103) (by rfl) _ (by rfl) ((HO.out.alloc _).drew) (some ⟨Z.heap.size, 0, none⟩) 1 1 (cellsF depC [(vb, uu.by_)]) (by rfl) (HSB.out.gw (Below.refl _ _).drew) (by have := HLN2.out; show _ * 16 ≤ _; omega) (by have := HLN2.out; simp only [maxLen]; omega) (by have := HSZ.out; simp; omega) ?_; intro v4 w4 o4 b4; have O4 := Lib.hid o4; have B4 := Lib.hid ((((HB.out.alloc HSZ.out _)).drew).trans b4); clear o4 b4)
            all_goals
              go_wp2
              go_roundw
              case rel => exact ⟨q + 1, by go_num, HQL.out, by rw [HN2.out, HFIN.out]; exact so_one O4.out, B4.out⟩
              case measure => have := HQL.out; simp [intOf]; omega
          · have HFIN := Lib.hid (show depVer vs ⟨(vt, vk), vn, vb, vx⟩ = [] by unfold depVer; simp only; rw [if_neg hnx])
            go_wp2
            go_roundw
            case rel => exact ⟨q + 1, by go_num, HQL.out, by rw [HN2.out, HFIN.out, List.append_nil]; exact HO.out, HB.out⟩
            case measure => have := HQL.out; simp [intOf]; omega
        · obtain rfl : q = vs.length := by omega
          have i2 : ¬ (vs.length : Int) < (vs.length : Int) := by omega
          rw [List.take_length, ← HDD.out] at ho
          have HO2 := Lib.hid ho
          have HB2 := Lib.hid hb
          clear hq hql ho hb
          go_wp2
          go_ret
          exact ⟨_, rfl, HO2.out, HB2.out⟩
end Go.Proofs.YtknppiebncdjmaaGreat

namespace Go.Proofs.YtknppiebncdjmaaGreat
set_option maxRecDepth 100000
open Go.Joins Go.Deep Go.ChangeShapes Go.WideShapes Go.ChangeAt Go.RowKit

structure OpX where
  do_ : Int
  tx : Int
  at_ : Lk
  to_ : ByteArray
  last : Int
instance : Inhabited OpX := ⟨⟨0, 0, (⟨#[]⟩, ⟨#[]⟩), ⟨#[]⟩, 0⟩⟩
def OpX.cells (o : OpX) : List Value := [.int .i64 o.do_, .int .i64 o.tx, .string o.at_.1, .string o.at_.2, .string o.to_, .int .i64 o.last]
structure OpXIs (o : OpX) : Prop where
  rd : -9223372036854775808 ≤ o.do_ ∧ o.do_ ≤ 9223372036854775807
  rt : -9223372036854775808 ≤ o.tx ∧ o.tx ≤ 9223372036854775807
  rl : -9223372036854775808 ≤ o.last ∧ o.last ≤ 9223372036854775807
  tb : o.at_.1.size ≤ 140737488351232
  ky : o.at_.2.size ≤ 140737488351232
  to_ : o.to_.size ≤ 140737488351232
structure RX (w : World) (A : Option Addr) (n : Nat) (os : List OpX) : Prop where
  len : os.length = n
  is : ∀ o ∈ os, OpXIs o
  row : 0 < n → ∃ b o, A = some ⟨b, o, none⟩ ∧ ∀ (j : Nat) (x : OpX), os[j]? = some x → w.rangeAt b (o + j * 6) x.cells
theorem RX.below {w w' : World} {A : Option Addr} {n : Nat} {os : List OpX} (h : RX w A n os) (hb : Below w.heap.size w w') : RX w' A n os :=
  ⟨h.len, h.is, fun hn => by
    obtain ⟨b, o, e, hr⟩ := h.row hn
    exact ⟨b, o, e, fun j x hx => rangeAt_belowS (hr j x hx) hb⟩⟩
theorem RX.at_ {w : World} {A : Option Addr} {n : Nat} {os : List OpX} (h : RX w A n os) {j : Nat} {x : OpX} (hx : os[j]? = some x) : ∃ b o, A = some ⟨b, o, none⟩ ∧ w.cell? ⟨b, o + j * 6, none⟩ = some (.int .i64 x.do_) ∧ w.cell? ⟨b, o + j * 6 + 1, none⟩ = some (.int .i64 x.tx) ∧ w.cell? ⟨b, o + j * 6 + 2, none⟩ = some (.string x.at_.1) ∧ w.cell? ⟨b, o + j * 6 + 3, none⟩ = some (.string x.at_.2) ∧ w.cell? ⟨b, o + j * 6 + 4, none⟩ = some (.string x.to_) ∧ w.cell? ⟨b, o + j * 6 + 5, none⟩ = some (.int .i64 x.last) := by
  obtain ⟨b, o, e, hr⟩ := h.row (by have := (List.getElem?_eq_some_iff.1 hx).1; have := h.len; omega)
  have q := hr j x hx
  exact ⟨b, o, e, q 0 _ rfl, q 1 _ rfl, q 2 _ rfl, q 3 _ rfl, q 4 _ rfl, q 5 _ rfl⟩
theorem cellsOpX : Tryz.prog.cellsOf 44 = 6 := by kernel_rfl
theorem bytesOpX : Tryz.prog.bytesOf 44 = 72 := by kernel_rfl
theorem open_lkX {H : Type} {enc : TypeId × Value → H} {w : World} {held : Bool} {fuel : Nat} {cs : List Value} {y : DataW H × List MemPlace} (h : DataW.trod enc Tryz.prog w 0 (fun _ => true) held fuel 42 cs = some y) (hl : Light Tryz.prog 42 y.1) :
    ∃ x : Lk, x.1.size ≤ 140737488351232 ∧ x.2.size ≤ 140737488351232 ∧ cs = lkC x := by
  obtain ⟨zs, k2, hcl, hzl, hD2, hf2⟩ := open_laidS Tryz.underlying42 (by kernel_rfl) (by kernel_rfl) h
  match cs, hcl, zs, hzl with
  | [g0, g1], _, [z0, z1], _ =>
    have s0 : DataW.trod enc Tryz.prog w 0 (fun _ => true) held k2 9 [g0] = some z0 := hf2 0 _ rfl
    have s1 : DataW.trod enc Tryz.prog w 0 (fun _ => true) held k2 9 [g1] = some z1 := hf2 1 _ rfl
    rw [hD2] at hl
    have l0 : Light Tryz.prog 9 z0.1 := light_field Tryz.underlying42 hl (j := 0) rfl rfl
    have l1 : Light Tryz.prog 9 z1.1 := light_field Tryz.underlying42 hl (j := 1) rfl rfl
    obtain ⟨a0, rfl, q0⟩ := open_strS Tryz.underlying9 l0 s0
    obtain ⟨a1, rfl, q1⟩ := open_strS Tryz.underlying9 l1 s1
    exact ⟨(a0, a1), q0, q1, rfl⟩
theorem open_opX {H : Type} {enc : TypeId × Value → H} {w : World} {held : Bool} {fuel : Nat} {cs : List Value} {y : DataW H × List MemPlace} (h : DataW.trod enc Tryz.prog w 0 (fun _ => true) held fuel 44 cs = some y) (hl : Light Tryz.prog 44 y.1) :
    ∃ o : OpX, OpXIs o ∧ cs = o.cells := by
  obtain ⟨ys, k, hlen, hyl, hD, hf⟩ := open_wideS Tryz.underlying44 h
  rw [cellsOpX] at hlen
  match cs, hlen, ys, hyl with
  | [g0, g1, g2, g3, g4, g5], _, [y0, y1, y2, y3, y4], _ =>
    have t0 : DataW.trod enc Tryz.prog w 0 (fun _ => true) held k 3 [g0] = some y0 := by
      have : DataW.trod enc Tryz.prog w 0 (fun _ => true) held k 3 (([g0, g1, g2, g3, g4, g5].drop 0).take (Tryz.prog.cellsOf 3)) = some y0 := hf 0 _ rfl
      rw [show Tryz.prog.cellsOf 3 = 1 by kernel_rfl] at this
      exact this
    have t1 : DataW.trod enc Tryz.prog w 0 (fun _ => true) held k 2 [g1] = some y1 := by
      have : DataW.trod enc Tryz.prog w 0 (fun _ => true) held k 2 (([g0, g1, g2, g3, g4, g5].drop 1).take (Tryz.prog.cellsOf 2)) = some y1 := hf 1 _ rfl
      rw [show Tryz.prog.cellsOf 2 = 1 by kernel_rfl] at this
      exact this
    have t2 : DataW.trod enc Tryz.prog w 0 (fun _ => true) held k 42 [g2, g3] = some y2 := by
      have : DataW.trod enc Tryz.prog w 0 (fun _ => true) held k 42 (([g0, g1, g2, g3, g4, g5].drop 2).take (Tryz.prog.cellsOf 42)) = some y2 := hf 2 _ rfl
      rw [show Tryz.prog.cellsOf 42 = 2 by kernel_rfl] at this
      exact this
    have t3 : DataW.trod enc Tryz.prog w 0 (fun _ => true) held k 9 [g4] = some y3 := by
      have : DataW.trod enc Tryz.prog w 0 (fun _ => true) held k 9 (([g0, g1, g2, g3, g4, g5].drop 4).take (Tryz.prog.cellsOf 9)) = some y3 := hf 3 _ rfl
      rw [show Tryz.prog.cellsOf 9 = 1 by kernel_rfl] at this
      exact this
    have t4 : DataW.trod enc Tryz.prog w 0 (fun _ => true) held k 2 [g5] = some y4 := by
      have : DataW.trod enc Tryz.prog w 0 (fun _ => true) held k 2 (([g0, g1, g2, g3, g4, g5].drop 5).take (Tryz.prog.cellsOf 2)) = some y4 := hf 4 _ rfl
      rw [show Tryz.prog.cellsOf 2 = 1 by kernel_rfl] at this
      exact this
    rw [hD] at hl
    have l2 : Light Tryz.prog 42 y2.1 := light_field Tryz.underlying44 hl (j := 2) rfl rfl
    have l3 : Light Tryz.prog 9 y3.1 := light_field Tryz.underlying44 hl (j := 3) rfl rfl
    obtain ⟨a0, rfl, w0⟩ := open_num Tryz.underlying3 t0
    obtain ⟨a1, rfl, w1⟩ := open_num Tryz.underlying2 t1
    obtain ⟨x, hx1, hx2, hx3⟩ := open_lkX t2 l2
    obtain ⟨a4, rfl, q4⟩ := open_strS Tryz.underlying9 l3 t3
    obtain ⟨a5, rfl, w5⟩ := open_num Tryz.underlying2 t4
    obtain ⟨tb, ky⟩ := x
    simp only [lkC, List.cons.injEq, and_true] at hx3
    obtain ⟨rfl, rfl⟩ := hx3
    exact ⟨⟨a0, a1, (tb, ky), a4, a5⟩, ⟨wf_i64 w0, wf_i64 w1, wf_i64 w5, hx1, hx2, q4⟩, rfl⟩
theorem open_opsX {H : Type} {enc : TypeId × Value → H} {w : World} {held : Bool} {fuel : Nat} {v : Value} {y : DataW H × List MemPlace} (h : DataW.trod enc Tryz.prog w 0 (fun _ => true) held fuel 24 [v] = some y) (hl : Light Tryz.prog 24 y.1) :
    ∃ A len cap os, v = .slice A len cap ∧ RX w A len os ∧ len ≤ cap ∧ cap ≤ 1954687338211 ∧ ((y.1 = .nil ∧ cap = 0) ∨ ∃ elems rest, y.1 = .slice elems rest ∧ elems.length + rest.length = cap) := by
  rcases open_slice Tryz.underlying24 h with ⟨hcs, rfl⟩ | ⟨a, len, cap, m, n, D, Pl, hcs, _, hlc, hm, hmm, rfl, hx⟩
  · obtain rfl : v = .slice none 0 0 := by simpa using hcs
    exact ⟨none, 0, 0, [], rfl, ⟨rfl, by simp, fun h => absurd h (by omega)⟩, Nat.le_refl _, by omega, .inl ⟨rfl, rfl⟩⟩
  obtain rfl : v = .slice (some a) len cap := by simpa using hcs
  have hcap : cap * 72 ≤ 140737488351232 := light_sizedS Tryz.underlying24 bytesOpX hl (.inr ⟨_, _, rfl, by simp only [if_true] at hmm; subst hmm; simp; omega⟩)
  simp only [if_true] at hmm
  subst hmm
  have key : ∀ i, i < len → ∃ o : OpX, OpXIs o ∧ ∀ j, j < 6 → w.cell? ((a.add (i * 6)).add j) = some (o.cells.getD j undef) := by
    intro i hi
    obtain ⟨cs', h1, h2⟩ := hx i (by omega)
    rw [cellsOpX] at h1
    obtain ⟨hlen, hcell⟩ := cells_mapMS h1
    have hle : Light Tryz.prog 44 (D i) := light_elemS Tryz.underlying24 hl (List.mem_map.2 ⟨i, by simp [hi], rfl⟩)
    obtain ⟨o, ho, rfl⟩ := open_opX h2 hle
    exact ⟨o, ho, fun j hj => hcell j hj⟩
  obtain ⟨f, hf⟩ := choose_lt key
  refine ⟨some a, len, m, (List.range len).map f, rfl, ⟨by simp, fun o ho => ?_, fun hn => ?_⟩, hlc, by omega, .inr ⟨_, _, rfl, by simp; omega⟩⟩
  · obtain ⟨i, hi, rfl⟩ := List.mem_map.1 ho
    exact (hf i (by simpa using hi)).1
  · have h0 := (hf 0 hn).2 0 (by omega)
    rw [show (a.add (0 * 6)).add 0 = a from rfl] at h0
    obtain ⟨b, o, rfl⟩ := spot_addS (spot_noneS h0)
    refine ⟨b, o, rfl, fun j x hx => ?_⟩
    have hj : j < len := by have := (List.getElem?_eq_some_iff.1 hx).1; simpa using this
    have hxe : f j = x := by simpa [hj] using hx
    intro k u hu
    have hk : k < 6 := (List.getElem?_eq_some_iff.1 hu).1
    have := (hf j hj).2 k hk
    rw [Addr.add_mid, Addr.add_mid, hxe] at this
    rw [this, List.getD_eq_getElem?_getD, hu]
    rfl
end Go.Proofs.YtknppiebncdjmaaGreat
