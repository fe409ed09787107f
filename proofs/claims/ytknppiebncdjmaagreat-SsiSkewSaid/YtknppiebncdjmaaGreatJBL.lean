import Derived.Test.YtknppiebncdjmaaGreatJBK
import Derived.Test.YtknppiebncdjmaaGreatJBJ
import Derived.Test.YtknppiebncdjmaaGreatJAK
import Derived.Test.YtknppiebncdjmaaGreatJBH
import Derived.Test.YtknppiebncdjmaaGreatJBI
set_option linter.unusedVariables false
namespace Go.Proofs.YtknppiebncdjmaaGreat
set_option maxRecDepth 100000
open Go.RowKit

section
variable {w0 w w' w1 : World} {G : Nat → Prop} {p m : Nat} {V V' : WdV} {rows : List Lk} {vs vs' : List Ver10} {ms ms' : List RunM} {bad : Bool}
theorem modify_set {α : Type} {l : List α} {k : Nat} {x : α} {f : α → α} (h : l[k]? = some x) : l.modify k f = l.set k (f x) := by
  refine List.ext_getElem? fun o => ?_
  have hl := (List.getElem?_eq_some_iff.1 h).1
  rw [mod_get, List.getElem?_set]
  by_cases e : k = o
  · subst e
    simp [hl, show l[k] = x from (List.getElem?_eq_some_iff.1 h).2]
  · simp [e]
theorem com_end {X w5 : World} {va : Option Addr} {vc g5 c5 : Nat} {mid : List Ver10} {d : Ver10} {o : Obj} (D : WdAt w0 X G p m { V with va := va, vc := vc } rows mid ms bad) (hva : ∀ k ∈ ownA va, k ∈ p :: ownersW V ms ∨ w.heap.size ≤ k) (O : Out (fun k => k ∈ p :: ownersW V ms) w X) (hGlt : ∀ k, G k → k < w.heap.size) (hs : w.heap.size ≤ X.heap.size)
    (o5 : SO seV w0.heap.size w5 (.slice (some ⟨g5, 0, none⟩) (mid.length + 1) c5) (mid.length + 1) (cellsF verC mid ++ cellsF verC [d])) (b5 : (X.alloc o).drew.grownBy w5 (Value.slice va mid.length vc).ownBlock) (l5 : (Value.slice va mid.length vc).ownBlock = some g5 ∨ g5 = (X.alloc o).drew.heap.size) :
    ComRel w0 w G p m V rows (mid ++ [d]) ms bad (w5.setCell ⟨p, 2, none⟩ (.slice (some ⟨g5, 0, none⟩) (mid.length + 1) c5)) := by
  have gX : Below X.heap.size X (X.alloc o).drew := (alloc_below10 X o).drew
  have DX := D.below gX
  have hsz := gX.size
  have hl : (mid ++ [d]).length = mid.length + 1 := by simp
  have h6 := DX.setVers (fun k hk => by have := hGlt k hk; omega) (vs' := mid ++ [d]) (g1 := g5) (c1 := c5) (by rw [hl, cellsF_app]; exact o5) b5 (l5.imp id fun e => by omega)
  rw [hl] at h6
  refine ⟨some ⟨g5, 0, none⟩, c5, h6, fun k hk => ?_, ?_⟩
  · have hkg : k = g5 := by simpa [ownA] using hk
    subst hkg
    rcases l5 with h1 | h1
    · exact hva k (ownA_mem h1)
    · exact .inr (by omega)
  · refine Out.setCell (Out.grown (O.trans (Out.of_below gX (fun _ => False)) fun _ _ h => h.elim) b5 fun k hk => hva k (ownA_mem hk)) (.inl (List.mem_cons_self ..)) _
set_option maxHeartbeats 16000000 in
theorem wCommit10 (h : WdAt w0 w G p m V rows vs ms bad) (hGlt : ∀ k, G k → k < w.heap.size) (hw0 : w0.heap.size ≤ w.heap.size) {i : Nat} {x : RunM} (hi : ms[i]? = some x) (hn1 : ms.length ≤ 1048576) (hn2 : vs.length + x.r.writes.length ≤ 1500000000000) (num : Int) :
    Calls Tryz.prog 69 #[.pointer (some ⟨p, 0, none⟩), .int .i64 (i : Int), .int .i64 num] w fun e w' => e = .returned (.tuple #[]) ∧ ComRel w0 w G p m V rows (layP vs num i x.r.writes) (ms.set i { x with r := { x.r with com := true } }) bad w' := by
  obtain ⟨r, ra, rc, wa, wc⟩ := x
  dsimp only at hn2 ⊢
  obtain ⟨ms1, hms1⟩ : ∃ ms1, ms.set i (⟨{ r with com := true }, ra, rc, wa, wc⟩ : RunM) = ms1 := ⟨_, rfl⟩
  rw [hms1]
  obtain ⟨g, hg, hcell, hfro⟩ := h.place hi
  have hil := (List.getElem?_eq_some_iff.1 hi).1
  have i1 : (i : Int) < (ms.length : Int) := by omega
  have i1' : (0 : Int) ≤ (i : Int) := by omega
  have p3 := h.cells.2.2.2.1
  rw [hg] at p3
  have f4 : w.frozen? ⟨g, i * 8 + 4, none⟩ = false := hfro _
  have y4 : w.cell? ⟨g, i * 8 + 4, none⟩ = some (.bool r.com) := hcell 4 _ rfl
  obtain ⟨W1, hW1⟩ : ∃ W1, w.setCell ⟨g, i * 8 + 4, none⟩ (.bool true) = W1 := ⟨_, rfl⟩
  have HW1 := Lib.hid hW1
  have D1 : WdAt w0 W1 G p m V rows vs ms1 bad := by
    rw [← hW1, ← hms1]
    exact h.flag hi hg (k := 4) (by omega) rfl rfl ⟨rfl, rfl, rfl, rfl, rfl, rfl⟩
  have hi1 : ms1[i]? = some (⟨{ r with com := true }, ra, rc, wa, wc⟩ : RunM) := by rw [← hms1, List.getElem?_set_self hil]
  obtain ⟨g', hg', hcell1, -⟩ := D1.place hi1
  have hgg : g' = g := by rw [hg] at hg'; simpa using hg'.symm
  subst hgg
  have y7 : W1.cell? ⟨g', i * 8 + 7, none⟩ = some (.slice wa r.writes.length wc) := hcell1 7 _ rfl
  have how : ownersW V ms1 = ownersW V ms := by
    obtain ⟨a, b, e1, -, e2⟩ := flat_set_own (x' := (⟨{ r with com := true }, ra, rc, wa, wc⟩ : RunM)) hi
    unfold ownersW
    rw [← hms1, e2, e1]
    simp only [List.flatMap_append, List.flatMap_cons, List.flatMap_nil, List.append_nil, runOwn]
  have hsz1 : W1.heap.size = w.heap.size := by rw [← hW1]; simp
  have C0 := Lib.hid (show ComRel w0 w G p m V rows (layP vs num i (r.writes.take 0)) ms1 bad W1 from ⟨V.va, V.vc, D1, fun k hk => .inl (List.mem_cons_of_mem _ ((own_in V ms1).2.1 k hk)), by
    rw [← hW1]
    exact Out.setCell (Out.refl _ _) (.inl (by rw [how]; exact List.mem_cons_of_mem _ ((own_in V ms).2.2.1 g' (by rw [hg]; simp [ownA])))) _⟩)
  have HL1 := Lib.hid (show ms1.length = ms.length by rw [← hms1, List.length_set])
  have HI1 := Lib.hid hi1
  have HGL := Lib.hid hGlt
  have HN2 := Lib.hid hn2
  have HN1 := Lib.hid hn1
  have HW0 := Lib.hid hw0
  have HIL := Lib.hid hil
  clear h hGlt hw0 hcell hfro hn1 hn2 hi hi1 hil D1 hcell1 hW1 hms1 how hg hg' hsz1
  go_enter Tryz.func69, Tryz.ntmps69
  go_upto_region 2 with fail
  rw [HW1.out]
  clear p3 f4 y4
  go_upto_region 3 with fail
  clear y7
  go_loopw [24] (fun i2 wr => ∃ j : Nat, i2 = .int .i64 (j : Nat) ∧ j ≤ r.writes.length ∧ ComRel w0 w G p m V rows (layP vs num i (r.writes.take j)) ms1 bad wr) (fun i2 _ => r.writes.length - (intOf i2).toNat)
  case atStart => exact ⟨0, rfl, Nat.zero_le _, C0.out⟩
  case round =>
    rename World => wr
    obtain ⟨j, rfl, hj, hC⟩ := hrel
    by_cases hlt : j < r.writes.length
    · obtain ⟨q, hq⟩ : ∃ q, r.writes[j]? = some q := ⟨_, List.getElem?_eq_getElem hlt⟩
      have HT := Lib.hid (layP_take (vs := vs) (num := num) (by_ := i) hq)
      have HCL := Lib.hid (show (layP vs num i (r.writes.take j)).length ≤ 1500000000000 by rw [layP_len, List.length_take]; have := HN2.out; omega)
      obtain ⟨cur, hcur⟩ : ∃ cur, layP vs num i (r.writes.take j) = cur := ⟨_, rfl⟩
      rw [hcur] at hC HT HCL
      obtain ⟨va, vc, D, hva, hO⟩ := hC
      have hle := hO.size
      obtain ⟨gw, ow, hwa, hc⟩ := (D.runs _ (List.mem_of_getElem? HI1.out)).2.sb10.el lkC_len (by omega) hq
      dsimp only at hwa
      subst hwa
      obtain ⟨tb, ky⟩ := q
      have c0 : wr.cell? ⟨gw, ow + j * 2, none⟩ = some (.string tb) := hc 0 _ rfl
      have c1 : wr.cell? ⟨gw, ow + j * 2 + 1, none⟩ = some (.string ky) := hc 1 _ rfl
      obtain ⟨Y, hY⟩ : ∃ Y, wr.alloc (.cells #[.string tb, .string ky] 42) = Y := ⟨_, rfl⟩
      have HY := Lib.hid hY
      have gY : Below wr.heap.size wr Y := by rw [← hY]; exact alloc_below10 _ _
      have rY : Y.heap[wr.heap.size]? = some (.cells #[.string tb, .string ky] 42 (0, 0)) := by rw [← hY]; exact heap_alloc_new _ _
      have y0 : Y.cell? ⟨wr.heap.size, 0, none⟩ = some (.string tb) := cell_of_row _ _ 0 _ _ _ rY
      have y1 : Y.cell? ⟨wr.heap.size, 1, none⟩ = some (.string ky) := cell_of_row _ _ 1 _ _ _ rY
      have i2 : (j : Int) < (r.writes.length : Int) := by omega
      have l2 : (j : Int) ≤ 1599289640354 := by have := HN2.out; omega
      have DY := Lib.hid (D.below gY)
      have CN := Lib.hid ((D.below gY).newest (by have := HCL.out; omega) (tb, ky) num)
      have HLT := Lib.hid hlt
      have OY := Lib.hid (hO.trans (Out.of_below gY (fun _ => False)) fun _ _ h => h.elim)
      have HVA := Lib.hid hva
      have HVL := Lib.hid (fun k hk => (D.vers.lt10 k hk).2)
      have HSY := Lib.hid (Nat.le_trans hle gY.size)
      have HBW := Lib.hid (show wr.heap.size < Y.heap.size from (Array.getElem?_eq_some_iff.1 rY).1)
      clear hj hlt hq hc gY rY hY hO hva D hcur hle
      go_upto_region 5 with fail
      rw [HY.out]
      clear c0 c1
      obtain ⟨N, hN⟩ : ∃ N, newestP cur (tb, ky) num = N := ⟨_, rfl⟩
      have HNI := Lib.hid (show layV cur num i (tb, ky) = (if 0 ≤ N then cur.modify N.toNat fun v => { v with next := (cur.length : Int) } else cur) ++ [⟨(tb, ky), num, i, -1⟩] by unfold layV; rw [hN])
      have hge := newest_ge cur (tb, ky) num
      rw [hN] at CN hge
      go_upto_region 6 with (go_at_call 68; go_loud (refine CN.out.mono ?_; rintro e w3 ⟨rfl, b3⟩; have D3 := Lib.hid (DY.out.below b3); have O3 := Lib.hid (OY.out.trans (Out.of_below b3 (fun _ => False)) fun _ _ h => h.elim); have HS3 := Lib.hid (Nat.le_trans HSY.out b3.size); replace y0 := keep_below y0 b3; replace y1 := keep_below y1 b3; have HB3 := Lib.hid (Nat.lt_of_lt_of_le HBW.out b3.size); clear b3))
      by_cases hneg : 0 ≤ N
      · obtain ⟨k, rfl⟩ : ∃ k : Nat, N = (k : Int) := ⟨N.toNat, by omega⟩
        have hk : k < cur.length := by omega
        obtain ⟨v, hv⟩ : ∃ v, cur[k]? = some v := ⟨_, List.getElem?_eq_getElem hk⟩
        have D3' := D3.out
        obtain ⟨gv, hgv, -⟩ := D3'.vers.addr10 (by omega)
        dsimp only at hgv
        subst hgv
        have p2 := D3'.cells.2.2.1
        dsimp only at p2
        have fv : w3.frozen? ⟨gv, k * 5 + 4, none⟩ = false := D3'.vers.own.frozenAt _
        have cv : w3.cell? ⟨gv, k * 5 + 4, none⟩ = some (.int .i64 v.next) := by
          obtain ⟨g1, o1, e1, hc1⟩ := D3'.vers.sb10.el verC_len (by omega) hv
          cases e1
          have := hc1 4 _ rfl
          rwa [Nat.zero_add] at this
        have i3 : (k : Int) < (cur.length : Int) := by omega
        have i3' : (0 : Int) ≤ (k : Int) := by omega
        have l3 : (cur.length : Int) ≤ 1500000000000 := by have := HCL.out; omega
        have HKV := Lib.hid hv
        clear D3' hge hk hv hN
        go_upto_region 7 with fail
        go_region
        all_goals
          go_upto_region 8 with fail
          obtain ⟨X, hX⟩ : ∃ X, (w3.setCell ⟨gv, k * 5 + 4, none⟩ (.int .i64 (cur.length : Nat))).drew = X := ⟨_, rfl⟩
          obtain ⟨mid, hmid⟩ : ∃ mid, cur.set k { v with next := (cur.length : Int) } = mid := ⟨_, rfl⟩
          have hml : mid.length = cur.length := by rw [← hmid, List.length_set]
          rw [hX]
          have HDX := Lib.hid (show WdAt w0 X G p m { V with va := some ⟨gv, 0, none⟩, vc := vc } rows mid ms1 bad by
            rw [← hX, ← hmid]
            exact (D3.out.next HKV.out rfl _).below (Below.refl _ _).drew)
          have HMID := Lib.hid (show layV cur num i (tb, ky) = mid ++ [⟨(tb, ky), num, i, -1⟩] by
            rw [HNI.out, if_pos hneg, Int.toNat_natCast, ← hmid, modify_set HKV.out])
          have hgo : ¬ wr.heap.size = gv := by have := HVL.out gv (by simp [ownA]); omega
          have hob : Out (fun k => k = gv) w3 X := by rw [← hX]; exact (Out.setCell (F := fun k => k = gv) (Out.refl _ w3) (.inl rfl) _).drew
          have HOX := Lib.hid (show Out (fun k => k ∈ p :: ownersW V ms1) w X by
            rw [← hX]
            exact (Out.setCell O3.out (HVA.out gv (by simp [ownA])) _).drew)
          have HSX := Lib.hid HOX.out.size
          have HVX := HVA
          have HML := Lib.hid (show mid.length ≤ 1500000000000 by rw [hml]; exact HCL.out)
          have z0 : X.cell? ⟨wr.heap.size, 0, none⟩ = some (.string tb) := hob.cell y0 hgo
          have z1 : X.cell? ⟨wr.heap.size, 1, none⟩ = some (.string ky) := hob.cell y1 hgo
          clear hX hmid hml y0 y1 p2 fv cv i3 i3' l3 hneg hgo hob
          have DX := HDX.out
          have x2 : X.cell? ⟨p, 2, none⟩ = some (.slice (some ⟨gv, 0, none⟩) mid.length vc) := DX.cells.2.2.1
          have DX' := DX.below (alloc_below10 X (.cells #[.string tb, .string ky, .int .i64 num, .int .i64 (i : Int), .int .i64 (-1)] 130))
          have z2 : (X.alloc (.cells #[.string tb, .string ky, .int .i64 num, .int .i64 (i : Int), .int .i64 (-1)] 130)).cell? ⟨p, 2, none⟩ = some (.slice (some ⟨gv, 0, none⟩) mid.length vc) := DX'.cells.2.2.1
          have fz : (X.alloc (.cells #[.string tb, .string ky, .int .i64 num, .int .i64 (i : Int), .int .i64 (-1)] 130)).frozen? ⟨p, 2, none⟩ = false := frozen_of_row _ _ _ _ _ DX'.blk
          have HZ2 := Lib.hid (show (X.alloc (.cells #[.string tb, .string ky, .int .i64 num, .int .i64 (i : Int), .int .i64 (-1)] 130)).drew.cell? ⟨p, 2, none⟩ = some (.slice (some ⟨gv, 0, none⟩) mid.length vc) from z2)
          have HNE := Lib.hid (show some p ≠ (Value.slice (some ⟨gv, 0, none⟩) mid.length vc).ownBlock from fun e => (DX.far.2 p (ownA_mem e.symm)).1 rfl)
          have HSB := Lib.hid (sb_ver X ⟨(tb, ky), num, (i : Int), -1⟩)
          have HSZ := Lib.hid (show w0.heap.size ≤ (X.alloc (.cells #[.string tb, .string ky, .int .i64 num, .int .i64 (i : Int), .int .i64 (-1)] 130)).heap.size from Nat.le_trans HW0.out (Nat.le_trans HSX.out (alloc_below10 X _).size))
          have HPX := Lib.hid (World.block_lt_of_cell? _ _ z2)
          clear DX DX'
          go_region_law (refine so_stepL seV_ok (by rfl) (.tmp 50) (.tmp 55) (by rfl) _ (by rfl) ((HDX.out.vers.alloc _).drew) X.heap.size 1 (cellsF verC [⟨(tb, ky), num, (i : Int), -1⟩]) (by rfl) (HSB.out.gw (Below.refl _ _).drew) (by have := HML.out; show _ * 56 ≤ _; omega) (by have := HML.out; simp only [maxLen]; omega) (by exact HSZ.out) ?_; intro g5 c5 w5 o5 b5 l5; have O5 := Lib.hid o5; have B5 := Lib.hid b5; have L5 := Lib.hid l5; have v6 := grown_keep b5 HZ2.out HNE.out; have v7 := (World.frozen?_of_block (a := ⟨p, 2, none⟩) (b5.block p HPX.out HNE.out)).trans fz; clear o5 b5 l5)
          all_goals
            go_wp2
            go_roundw
            case rel => exact ⟨j + 1, by go_num, HLT.out, by rw [HT.out, HMID.out]; exact com_end HDX.out HVX.out HOX.out HGL.out HSX.out O5.out B5.out L5.out⟩
            case measure => have := HLT.out; simp [intOf]; omega
      · go_upto_region 8 with fail
        have HDX := D3
        have HMID := Lib.hid (show layV cur num i (tb, ky) = cur ++ [⟨(tb, ky), num, i, -1⟩] by rw [HNI.out, if_neg hneg])
        have HOX := O3
        have HSX := HS3
        have HVX := HVA
        have HML := HCL
        clear hneg hge hN
        have DX := HDX.out
        have z9 : w3.cell? ⟨p, 2, none⟩ = some (.slice va cur.length vc) := DX.cells.2.2.1
        have DX' := DX.below (alloc_below10 w3 (.cells #[.string tb, .string ky, .int .i64 num, .int .i64 (i : Int), .int .i64 (-1)] 130))
        have z2 : (w3.alloc (.cells #[.string tb, .string ky, .int .i64 num, .int .i64 (i : Int), .int .i64 (-1)] 130)).cell? ⟨p, 2, none⟩ = some (.slice va cur.length vc) := DX'.cells.2.2.1
        have fz : (w3.alloc (.cells #[.string tb, .string ky, .int .i64 num, .int .i64 (i : Int), .int .i64 (-1)] 130)).frozen? ⟨p, 2, none⟩ = false := frozen_of_row _ _ _ _ _ DX'.blk
        have HZ2 := Lib.hid (show (w3.alloc (.cells #[.string tb, .string ky, .int .i64 num, .int .i64 (i : Int), .int .i64 (-1)] 130)).drew.cell? ⟨p, 2, none⟩ = some (.slice va cur.length vc) from z2)
        have HNE := Lib.hid (show some p ≠ (Value.slice va cur.length vc).ownBlock from fun e => (DX.far.2 p (ownA_mem e.symm)).1 rfl)
        have HSB := Lib.hid (sb_ver w3 ⟨(tb, ky), num, (i : Int), -1⟩)
        have HSZ := Lib.hid (show w0.heap.size ≤ (w3.alloc (.cells #[.string tb, .string ky, .int .i64 num, .int .i64 (i : Int), .int .i64 (-1)] 130)).heap.size from Nat.le_trans HW0.out (Nat.le_trans HSX.out (alloc_below10 w3 _).size))
        have HPX := Lib.hid (World.block_lt_of_cell? _ _ z2)
        clear DX DX'
        go_region_law (refine so_stepL seV_ok (by rfl) (.tmp 50) (.tmp 55) (by rfl) _ (by rfl) ((HDX.out.vers.alloc _).drew) w3.heap.size 1 (cellsF verC [⟨(tb, ky), num, (i : Int), -1⟩]) (by rfl) (HSB.out.gw (Below.refl _ _).drew) (by have := HML.out; show _ * 56 ≤ _; omega) (by have := HML.out; simp only [maxLen]; omega) (by exact HSZ.out) ?_; intro g5 c5 w5 o5 b5 l5; have O5 := Lib.hid o5; have B5 := Lib.hid b5; have L5 := Lib.hid l5; have v6 := grown_keep b5 HZ2.out HNE.out; have v7 := (World.frozen?_of_block (a := ⟨p, 2, none⟩) (b5.block p HPX.out HNE.out)).trans fz; clear o5 b5 l5)
        all_goals
          go_wp2
          go_roundw
          case rel => exact ⟨j + 1, by go_num, HLT.out, by rw [HT.out, HMID.out]; exact com_end HDX.out HVX.out HOX.out HGL.out HSX.out O5.out B5.out L5.out⟩
          case measure => have := HLT.out; simp [intOf]; omega
    · obtain rfl : j = r.writes.length := by omega
      have i2 : ¬ (r.writes.length : Int) < (r.writes.length : Int) := by omega
      rw [List.take_length] at hC
      have HC := Lib.hid hC
      clear hj hlt hC
      go_wp2
      go_end0
      exact ⟨rfl, HC.out⟩
end
end Go.Proofs.YtknppiebncdjmaaGreat

namespace Go.Proofs.YtknppiebncdjmaaGreat
set_option maxRecDepth 100000
open Go.RowKit

structure Do10 (P : Nat → Prop) (wf w0 w : World) (G K : Nat → Prop) (p b : Nat) (V : WdV) (rows : List Lk) (vs : List Ver10) (ms : List RunM) (c : Cp10) (S : St10) : Prop where
  m : M10 w G K b c S
  d : WdAt w0 w (fun k => (G k ∨ K k) ∨ P k) p b V rows vs ms false
  g : ∀ k, G k ∨ K k → w0.heap.size ≤ k
  z : Below w0.heap.size w0 w
  f : Out (fun k => ¬ P k) wf w
  pg : ∀ k, P k → k < wf.heap.size ∧ ¬ G k ∧ ¬ K k
def DoEx (P : Nat → Prop) (wf w0 : World) (p b : Nat) (rows : List Lk) (c : Cp10) (S : St10) (vs : List Ver10) (rs : List Run10) (w : World) : Prop :=
  ∃ G K V ms, Do10 P wf w0 w G K p b V rows vs ms c S ∧ ms.map (·.r) = rs
section
variable {P : Nat → Prop} {wf w0 w w' : World} {G K : Nat → Prop} {p b : Nat} {V : WdV} {rows : List Lk} {vs : List Ver10} {ms : List RunM} {c : Cp10} {S S' : St10}
theorem Do10.glt (h : Do10 P wf w0 w G K p b V rows vs ms c S) : ∀ k, (G k ∨ K k) ∨ P k → k < w.heap.size := fun k hk => by
  rcases hk with (hk | hk) | hk
  · exact h.m.lt.1 k hk
  · exact h.m.lt.2 k hk
  · exact Nat.lt_of_lt_of_le (h.pg k hk).1 h.f.size
theorem Do10.bel (h : Do10 P wf w0 w G K p b V rows vs ms c S) (g : Below w.heap.size w w') : Do10 P wf w0 w' G K p b V rows vs ms c S :=
  ⟨h.m.below g, h.d.below g, h.g, below_next h.z g, h.f.then (Out.of_below g _), h.pg⟩
theorem Do10.call (h : Do10 P wf w0 w G K p b V rows vs ms c S) (l : Left10 w w' G K b c S') : ∃ G' K', Do10 P wf w0 w' G' K' p b V rows vs ms c S' := by
  obtain ⟨G', K', m, hg, hk', o⟩ := l
  have hs := h.z.size
  have hfs := h.f.size
  refine ⟨G', K', m, h.d.out (o.mono fun k _ hk => .inl (.inl hk)) fun k hk => ?_, fun k hk => ?_, h.z.trans (o.below hs fun i hlt hi => by have := h.g i (.inl hi); omega), h.f.then (o.mono fun k _ hk hp => (h.pg k hp).2.1 hk), fun k hp => ?_⟩
  · rcases hk with (hk | hk) | hk
    · exact (hg k hk).imp (fun e => .inl (.inl e)) id
    · exact (hk' k hk).imp (fun e => .inl (.inr e)) id
    · exact .inl (.inr hk)
  · rcases hk with hk | hk
    · rcases hg k hk with h1 | h1
      · exact h.g k (.inl h1)
      · omega
    · rcases hk' k hk with h1 | h1
      · exact h.g k (.inr h1)
      · omega
  · obtain ⟨p1, p2, p3⟩ := h.pg k hp
    refine ⟨p1, fun e => ?_, fun e => ?_⟩
    · rcases hg k e with h1 | h1
      · exact p2 h1
      · omega
    · rcases hk' k e with h1 | h1
      · exact p3 h1
      · omega
theorem Do10.own {V' : WdV} {vs' : List Ver10} {ms' : List RunM} (h : Do10 P wf w0 w G K p b V rows vs ms c S) (o : Out (fun k => k ∈ p :: ownersW V ms) w w') (d : WdAt w0 w' (fun k => (G k ∨ K k) ∨ P k) p b V' rows vs' ms' false) : Do10 P wf w0 w' G K p b V' rows vs' ms' c S :=
  ⟨h.m.stays o fun k hk => ⟨fun hg => h.d.ap k hk (.inl (.inl hg)), fun hg => h.d.ap k hk (.inl (.inr hg))⟩, d, h.g, h.z.trans (o.below h.z.size fun i hlt hi => by have := (h.d.lt i hi).1; omega), h.f.then (o.mono fun k _ hk hp => h.d.ap k hk (.inr hp)), h.pg⟩
theorem sb_run (X : World) (tx sn bg : Int) : SB (X.alloc (.cells #[.int .i64 tx, .int .i64 sn, .int .i64 bg, .int .i64 0, .bool false, .bool false, .slice none 0 0, .slice none 0 0] 70)) (some ⟨X.heap.size, 0, none⟩) (seU.s * 1) (cellsF runC [⟨⟨tx, sn, bg, 0, false, false, [], []⟩, none, 0, none, 0⟩]) := by
  refine ⟨rfl, ?_, fun _ => ⟨X.heap.size, 0, rfl, fun j u hj => ?_⟩⟩
  · intro u hu
    simp [cellsF, runC] at hu
    rcases hu with rfl | rfl | rfl | rfl | rfl | rfl | rfl | rfl <;> rfl
  · rw [cell_of_row _ _ _ _ _ _ (heap_alloc_new X _)]
    simpa [cellsF, runC] using hj
end
end Go.Proofs.YtknppiebncdjmaaGreat

namespace Go.Proofs.YtknppiebncdjmaaGreat
set_option maxRecDepth 100000
open Go.RowKit

theorem op_row {w : World} (o : OpX) : ∀ W, w.alloc (.cells #[.int .i64 o.do_, .int .i64 o.tx, .string o.at_.1, .string o.at_.2, .string o.to_, .int .i64 o.last] 44) = W → Below w.heap.size w W ∧ W.cell? ⟨w.heap.size, 0, none⟩ = some (.int .i64 o.do_) ∧ W.cell? ⟨w.heap.size, 1, none⟩ = some (.int .i64 o.tx) ∧ W.cell? ⟨w.heap.size, 2, none⟩ = some (.string o.at_.1) ∧ W.cell? ⟨w.heap.size, 3, none⟩ = some (.string o.at_.2) ∧ W.cell? ⟨w.heap.size, 4, none⟩ = some (.string o.to_) ∧ W.cell? ⟨w.heap.size, 5, none⟩ = some (.int .i64 o.last) := by
  intro W hW
  have q : W.heap[w.heap.size]? = some (.cells #[.int .i64 o.do_, .int .i64 o.tx, .string o.at_.1, .string o.at_.2, .string o.to_, .int .i64 o.last] 44 (0, 0)) := by rw [← hW]; exact heap_alloc_new _ _
  exact ⟨by rw [← hW]; exact alloc_below10 _ _, cell_of_row _ _ 0 _ _ _ q, cell_of_row _ _ 1 _ _ _ q, cell_of_row _ _ 2 _ _ _ q, cell_of_row _ _ 3 _ _ _ q, cell_of_row _ _ 4 _ _ _ q, cell_of_row _ _ 5 _ _ _ q⟩
section
variable {P : Nat → Prop} {wf w0 w w' : World} {G K : Nat → Prop} {p b : Nat} {V : WdV} {rows : List Lk} {vs : List Ver10} {ms : List RunM} {c : Cp10} {S S' : St10}
set_option maxHeartbeats 16000000 in
theorem wDoBegin (h : Do10 P wf w0 w G K p b V rows vs ms c S) (hb : Bd10 S) (hn : ms.length ≤ 1048576) (o : OpX) (ho : o.do_ = 0) (mo : Nat)
    (hs : (begin10 c S).1.2.2 = 0 → (begin10 c S).1.2.1 = (begin10 c S).2.last) (hb' : Bd10 (begin10 c S).2) :
    Calls Tryz.prog 22 #[.pointer (some ⟨p, 0, none⟩), .agg #[.int .i64 o.do_, .int .i64 o.tx, .string o.at_.1, .string o.at_.2, .string o.to_, .int .i64 o.last], .int .i64 (mo : Int)] w fun e w' => e = .returned (.int .i64 (begin10 c S).1.2.2) ∧
      DoEx P wf w0 p b rows c (begin10 c S).2 vs (if (begin10 c S).1.2.2 = 0 then ms.map (·.r) ++ [⟨(begin10 c S).1.1, (begin10 c S).1.2.1, mo, 0, false, false, [], []⟩] else ms.map (·.r)) w' := by
  obtain ⟨do_, tx1, ⟨tb, ky⟩, to_, last⟩ := o
  dsimp only at ho ⊢
  subst ho
  obtain ⟨W, hW⟩ : ∃ W, w.alloc (.cells #[.int .i64 0, .int .i64 tx1, .string tb, .string ky, .string to_, .int .i64 last] 44) = W := ⟨_, rfl⟩
  obtain ⟨hB, o0, -⟩ := op_row ⟨0, tx1, (tb, ky), to_, last⟩ W hW
  dsimp only at o0
  have HW := Lib.hid hW
  have hD := h.bel hB
  have CB := Lib.hid (w10Begin hD.m hb)
  obtain ⟨⟨⟨tx, sn, er⟩, S'⟩, hq⟩ : ∃ q, begin10 c S = q := ⟨_, rfl⟩
  rw [hq] at CB hs hb' ⊢
  dsimp only at CB hs hb' ⊢
  have HD := Lib.hid hD
  have HB' := Lib.hid hb'
  have HN := Lib.hid hn
  have p0 := hD.d.cells.1
  clear h hb hn hW hB hD hq hb'
  by_cases he : er = 0
  · subst he
    have hsn := hs rfl
    subst hsn
    rw [if_pos rfl]
    obtain ⟨rs, hrs⟩ : ∃ rs, ms.map (·.r) ++ [(⟨tx, S'.last, mo, 0, false, false, [], []⟩ : Run10)] = rs := ⟨_, rfl⟩
    rw [hrs]
    have HRS := Lib.hid hrs
    clear hs hrs
    go_enter Tryz.func22, Tryz.ntmps22
    go_upto_region 1 with fail
    rw [HW.out]
    go_upto_region 4 with (go_at_call 15; go_loud (refine CB.out.mono ?_; rintro e w2 ⟨rfl, l2⟩; obtain ⟨G2, K2, d2⟩ := HD.out.call l2; have D2 := Lib.hid d2; have q3 := d2.d.cells.2.2.2.1; have z3 := ((d2.d.below (alloc_below10 w2 (.cells #[.int .i64 tx, .int .i64 S'.last, .int .i64 (mo : Int), .int .i64 0, .bool false, .bool false, .slice none 0 0, .slice none 0 0] 70))).cells.2.2.2.1); have fz : (w2.alloc (.cells #[.int .i64 tx, .int .i64 S'.last, .int .i64 (mo : Int), .int .i64 0, .bool false, .bool false, .slice none 0 0, .slice none 0 0] 70)).frozen? ⟨p, 3, none⟩ = false := frozen_of_row _ _ _ _ _ (d2.d.below (alloc_below10 w2 _)).blk; have HNE := Lib.hid (show some p ≠ (Value.slice V.la ms.length V.lc).ownBlock from fun e => (d2.d.far.1 p (ownA_mem e.symm)).1 rfl); have HSB := Lib.hid (sb_run w2 tx S'.last (mo : Int)); have HSZ := Lib.hid (show w0.heap.size ≤ (w2.alloc (.cells #[.int .i64 tx, .int .i64 S'.last, .int .i64 (mo : Int), .int .i64 0, .bool false, .bool false, .slice none 0 0, .slice none 0 0] 70)).heap.size from Nat.le_trans d2.z.size (alloc_below10 w2 _).size); have HPX := Lib.hid (World.block_lt_of_cell? _ _ z3); clear d2 l2))
    clear p0 o0
    go_upto_region 5 with (at_builtin; go_loud (refine so_appendL seU_ok (by rfl) (.tmp 39) (.tmp 44) (by rfl) _ (by rfl) (D2.out.d.list.alloc _) w2.heap.size 1 (cellsF runC [⟨⟨tx, S'.last, mo, 0, false, false, [], []⟩, none, 0, none, 0⟩]) (by rfl) HSB.out (by have := HN.out; show _ * 88 ≤ _; omega) (by have := HN.out; simp only [maxLen]; omega) HSZ.out ?_; intro g5 c5 w5 o5 b5 l5; have O5 := Lib.hid o5; have B5 := Lib.hid b5; have L5 := Lib.hid l5; have v6 := grown_keep b5 z3 HNE.out; have v7 := (World.frozen?_of_block (a := ⟨p, 3, none⟩) (b5.block p HPX.out HNE.out)).trans fz; clear o5 b5 l5))
    obtain ⟨w6, hw6⟩ : ∃ w6, w5.setCell ⟨p, 3, none⟩ (.slice (some ⟨g5, 0, none⟩) (ms.length + 1) c5) = w6 := ⟨_, rfl⟩
    have DX := D2.out.bel (alloc_below10 w2 (.cells #[.int .i64 tx, .int .i64 S'.last, .int .i64 (mo : Int), .int .i64 0, .bool false, .bool false, .slice none 0 0, .slice none 0 0] 70))
    have dp := DX.d.push DX.glt (x := ⟨⟨tx, S'.last, mo, 0, false, false, [], []⟩, none, 0, none, 0⟩) ⟨rfl, rfl, rfl, rfl, rfl, rfl⟩ O5.out B5.out (L5.out.imp id fun e => by omega)
    have D6 := DX.own (Out.setCell (F := fun k => k ∈ p :: ownersW V ms) (p := ⟨p, 3, none⟩) (Out.grown (Out.refl _ _) B5.out fun k hk => .inl (List.mem_cons_of_mem _ ((own_in V ms).2.2.1 k (ownA_mem hk)))) (.inl (List.mem_cons_self ..)) _) dp
    rw [hw6] at D6
    rw [hw6]
    have CNW := Lib.hid (w10Now D6.m HB'.out)
    have n0 := D6.d.cells.1
    have n4 := D6.d.cells.2.2.2.2
    have nf : w6.frozen? ⟨p, 4, none⟩ = false := frozen_of_row _ _ _ _ _ D6.d.blk
    have DD6 := Lib.hid D6
    clear dp DX D6 hw6 q3 z3 fz v6 v7
    go_wp2_with (go_at_call 34; go_loud (refine CNW.out.mono ?_; rintro e w7 ⟨rfl, hw⟩; replace hw := hw.symm; subst hw))
    go_ret
    refine ⟨rfl, G2, K2, _, _, DD6.out.own (Out.setCell (p := ⟨p, 4, none⟩) (Out.refl _ _) (.inl (List.mem_cons_self ..)) _) (DD6.out.d.setBad false), ?_⟩
    rw [← HRS.out, List.map_append]
    rfl
  · rw [if_neg he]
    go_enter Tryz.func22, Tryz.ntmps22
    go_upto_region 1 with fail
    rw [HW.out]
    go_wp2_with (go_at_call 15; go_loud (refine CB.out.mono ?_; rintro e w2 ⟨rfl, l2⟩; obtain ⟨G2, K2, d2⟩ := HD.out.call l2; have D2 := Lib.hid d2; clear d2 l2))
    go_ret
    exact ⟨rfl, G2, K2, V, ms, D2.out, rfl⟩
end
end Go.Proofs.YtknppiebncdjmaaGreat

namespace Go.Proofs.YtknppiebncdjmaaGreat
set_option maxRecDepth 100000

def overR (r : Run10) (mo : Int) : Run10 := { r with over := true, ended := mo }
def lastW (vs : List Ver10) (l : Lk) : Int := if 0 ≤ newestP vs l 4611686018427387904 then ((vs[(newestP vs l 4611686018427387904).toNat]?).map (·.num)).getD 0 else 0
def wroteR (r : Run10) (l : Lk) : Run10 := { r with writes := if hasLk r.writes l = true then r.writes else r.writes ++ [l] }
def inS (tb lo hi : ByteArray) (l : Lk) : Bool := l.1.toList == tb.toList && withinB l.2 lo hi
theorem sees_len (vs : List Ver10) : ∀ (ls : List Lk) (r : Run10), (ls.foldl (seesP vs) r).reads.length ≤ r.reads.length + ls.length
  | [], r => by simp
  | l :: ls, r => by
    have h := sees_len vs ls (seesP vs r l)
    have : (seesP vs r l).reads.length ≤ r.reads.length + 1 := by unfold seesP; split <;> simp
    rw [List.foldl_cons, List.length_cons]
    omega
structure Pl10 where
  S : St10
  vs : List Ver10
  rs : List Run10
def doR (c : Cp10) (rows : List Lk) (X : Pl10) (o : OpX) (mo : Int) (i : Nat) (r : Run10) : Int × Pl10 :=
  if o.do_ = 1 then ((read10 c X.S o.tx o.at_).1, ⟨(read10 c X.S o.tx o.at_).2, X.vs, X.rs.set i (if (read10 c X.S o.tx o.at_).1 = 0 then seesP X.vs r o.at_ else overR r mo)⟩)
  else if o.do_ = 2 then ((scan10 c X.S o.tx o.at_.1 o.at_.2 o.to_).1, ⟨(scan10 c X.S o.tx o.at_.1 o.at_.2 o.to_).2, X.vs, X.rs.set i (if (scan10 c X.S o.tx o.at_.1 o.at_.2 o.to_).1 = 0 then (rows.filter (inS o.at_.1 o.at_.2 o.to_)).foldl (seesP X.vs) r else overR r mo)⟩)
  else if o.do_ = 3 then ((write10 c X.S o.tx o.at_ (lastW X.vs o.at_)).1, ⟨(write10 c X.S o.tx o.at_ (lastW X.vs o.at_)).2, X.vs, X.rs.set i (if (write10 c X.S o.tx o.at_ (lastW X.vs o.at_)).1 = 0 then wroteR r o.at_ else overR r mo)⟩)
  else if o.do_ = 4 then ((commit10 c X.S o.tx).1.2, ⟨(commit10 c X.S o.tx).2, if (commit10 c X.S o.tx).1.2 = 0 then layP X.vs (commit10 c X.S o.tx).1.1 i r.writes else X.vs, X.rs.set i (if (commit10 c X.S o.tx).1.2 = 0 then overR { r with com := true } mo else overR r mo)⟩)
  else if o.do_ = 5 then ((abort10 X.S o.tx).1, ⟨(abort10 X.S o.tx).2, X.vs, X.rs.set i (overR r mo)⟩)
  else (0, X)
def doP (c : Cp10) (rows : List Lk) (X : Pl10) (o : OpX) (mo : Int) : Int × Pl10 :=
  if o.do_ = 0 then ((begin10 c X.S).1.2.2, ⟨(begin10 c X.S).2, X.vs, if (begin10 c X.S).1.2.2 = 0 then X.rs ++ [⟨(begin10 c X.S).1.1, (begin10 c X.S).1.2.1, mo, 0, false, false, [], []⟩] else X.rs⟩)
  else if ofW X.rs o.tx < 0 then (0, X) else match X.rs[(ofW X.rs o.tx).toNat]? with
    | none => (0, X)
    | some r => doR c rows X o mo (ofW X.rs o.tx).toNat r
section
variable {c : Cp10} {rows : List Lk} {X Y : Pl10} {o : OpX} {mo now : Int}
theorem doP_none (h0 : o.do_ ≠ 0) (h : ofW X.rs o.tx = -1) : doP c rows X o mo = (0, X) := by
  unfold doP
  rw [if_neg h0, if_pos (by omega)]
theorem doP_some {i : Nat} {r : Run10} (h0 : o.do_ ≠ 0) (h : ofW X.rs o.tx = (i : Int)) (hi : X.rs[i]? = some r) : doP c rows X o mo = doR c rows X o mo i r := by
  unfold doP
  rw [if_neg h0, if_neg (by omega), h, Int.toNat_natCast, hi]
theorem last_is (I : Inv10 c X.S X.vs X.rs now) (hn : now ≤ 4611686018427387904) (l : Lk) : 0 ≤ lastW X.vs l ∧ lastW X.vs l ≤ X.S.last ∧ ∀ v ∈ X.vs, v.at_ = l → v.num ≤ lastW X.vs l := by
  have hlc := I.lc
  unfold lastW
  rcases newest_is X.vs l 4611686018427387904 with ⟨h1, h2⟩ | ⟨k, v, h1, h2, h3, h4⟩
  · rw [h1, if_neg (by omega)]
    refine ⟨Int.le_refl _, hlc.1, fun v hv e => ?_⟩
    obtain ⟨k, hk⟩ := List.mem_iff_getElem?.1 hv
    obtain ⟨-, -, -, -, -, -, h5, -⟩ := I.ve v hv
    exact absurd ⟨e, by omega⟩ (h2 k v hk)
  · rw [h1, if_pos (by omega), Int.toNat_natCast, h2]
    simp only [Option.map_some, Option.getD_some]
    obtain ⟨-, -, -, -, -, -, h5, h6, -⟩ := I.ve v (List.mem_of_getElem? h2)
    refine ⟨h6, h5, fun u hu e => ?_⟩
    obtain ⟨m, hm⟩ := List.mem_iff_getElem?.1 hu
    obtain ⟨-, -, -, -, -, -, h7, -⟩ := I.ve u hu
    have hmk := h4 m u hm ⟨e, by omega⟩
    rcases Nat.lt_or_eq_of_le hmk with hlt | rfl
    · exact Int.le_of_lt (I.vi m k u v hm h2 hlt (e.trans h3.1.symm))
    · rw [h2] at hm; cases hm; exact Int.le_refl _
theorem inS_is {tb lo hi : ByteArray} {l : Lk} (h : inS tb lo hi l = true) : l.1 = tb ∧ withinB l.2 lo hi = true := by
  unfold inS at h
  rw [Bool.and_eq_true] at h
  have := eq_of_beq h.1
  refine ⟨?_, h.2⟩
  have h3 : l.1.data.toList = tb.data.toList := by simpa [ByteArray.toList_eq] using this
  have h4 : l.1.data = tb.data := Array.toList_inj.1 h3
  cases h5 : l.1 with
  | mk d => rw [h5] at h4; cases tb; simp only at h4; rw [h4]
theorem Inv10.do (I : Inv10 c X.S X.vs X.rs now) (h0 : 0 ≤ now) (hn : now ≤ 4611686018427387904) : Inv10 c (doP c rows X o now).2.S (doP c rows X o now).2.vs (doP c rows X o now).2.rs (now + 1) := by
  by_cases hd : o.do_ = 0
  · unfold doP
    rw [if_pos hd]
    obtain ⟨h1, h2⟩ := I.began h0
    simp only
    by_cases he : (begin10 c X.S).1.2.2 = 0
    · rw [if_pos he]; exact (h1 he).2.2
    · rw [if_neg he, h2 he]; exact I.tick
  rcases ofW_is X.rs o.tx with ⟨h1, -⟩ | ⟨i, r, h1, hi, htx, hov⟩
  · rw [doP_none hd h1]; exact I.tick
  rw [doP_some hd h1 hi]
  unfold doR
  rw [← htx]
  split
  · obtain ⟨k1, k2⟩ := I.read hi hov o.at_
    simp only
    split
    · rename_i he; exact k1 he
    · rename_i he; exact k2 he
  split
  · obtain ⟨k1, k2⟩ := I.scan hi hov o.at_.1 o.at_.2 o.to_ (rows.filter (inS o.at_.1 o.at_.2 o.to_)) fun l hl => inS_is (List.mem_filter.1 hl).2
    simp only
    split
    · rename_i he; exact k1 he
    · rename_i he; exact k2 he
  split
  · obtain ⟨l1, -, l2⟩ := last_is I hn o.at_
    obtain ⟨k1, k2⟩ := I.write hi hov o.at_ (lastW X.vs o.at_) l1 l2
    simp only
    split
    · rename_i he; exact k1 he
    · rename_i he; exact k2 he
  split
  · obtain ⟨k1, k2⟩ := I.committed hi hov
    simp only
    by_cases he : (commit10 c X.S r.tx).1.2 = 0
    · rw [if_pos he, if_pos he]; exact (k1 he).2.2
    · rw [if_neg he, if_neg he]; exact k2 he
  split
  · exact (I.aborted hi hov).2
  · exact I.tick
def strip (r : Run10) : Run10 := { r with begun := 0, ended := 0 }
def Pl10.strip (X : Pl10) : Pl10 := ⟨X.S, X.vs, X.rs.map (Go.Proofs.YtknppiebncdjmaaGreat.strip)⟩
theorem strip_is {r g : Run10} (h : strip r = strip g) : r.tx = g.tx ∧ r.over = g.over ∧ r.com = g.com ∧ r.reads = g.reads ∧ r.writes = g.writes := by
  cases r; cases g
  simp only [strip, Run10.mk.injEq] at h
  exact ⟨h.1, h.2.2.2.2.2.1, h.2.2.2.2.1, h.2.2.2.2.2.2.1, h.2.2.2.2.2.2.2⟩
theorem ofW_strip (rs : List Run10) (tx : Int) : ofW (rs.map strip) tx = ofW rs tx := by
  unfold ofW
  rw [List.findIdx?_map]
  rfl
theorem sees_strip (vs : List Ver10) (r : Run10) (l : Lk) : strip (seesP vs r l) = seesP vs (strip r) l := by
  unfold seesP
  have : (strip r).writes = r.writes := rfl
  rw [this]
  split <;> rfl
theorem seess_strip (vs : List Ver10) : ∀ (ls : List Lk) (r : Run10), strip (ls.foldl (seesP vs) r) = ls.foldl (seesP vs) (strip r)
  | [], _ => rfl
  | l :: ls, r => by rw [List.foldl_cons, List.foldl_cons, seess_strip vs ls, sees_strip]
theorem doR_strip (i : Nat) (r : Run10) (mo mo' : Int) : (doR c rows X o mo i r).1 = (doR c rows X.strip o mo' i (strip r)).1 ∧ (doR c rows X o mo i r).2.strip = (doR c rows X.strip o mo' i (strip r)).2.strip := by
  have map_set : ∀ (a b : Run10), strip a = strip b → (X.rs.set i a).map strip = ((X.rs.map strip).set i b).map strip := fun a b e => by
    rw [List.map_set, List.map_set, List.map_map, e]
    rfl
  have hv : X.strip.vs = X.vs := rfl
  have hS : X.strip.S = X.S := rfl
  have hr : X.strip.rs = X.rs.map strip := rfl
  have hm : ∀ (S : St10) (vs : List Ver10) (rs : List Run10), Pl10.strip ⟨S, vs, rs⟩ = ⟨S, vs, rs.map strip⟩ := fun _ _ _ => rfl
  unfold doR
  rw [hv, hS, hr]
  split
  · refine ⟨rfl, ?_⟩
    simp only [hm]
    congr 1
    refine map_set _ _ ?_
    split
    · rw [sees_strip]; rw [show seesP X.vs (strip r) o.at_ = strip (seesP X.vs r o.at_) from (sees_strip ..).symm]; rfl
    · rfl
  split
  · refine ⟨rfl, ?_⟩
    simp only [hm]
    congr 1
    refine map_set _ _ ?_
    split
    · rw [← seess_strip]; rfl
    · rfl
  split
  · refine ⟨rfl, ?_⟩
    simp only [hm]
    congr 1
    refine map_set _ _ ?_
    split <;> rfl
  split
  · refine ⟨rfl, ?_⟩
    simp only [hm]
    congr 1
    refine map_set _ _ ?_
    split <;> rfl
  split
  · refine ⟨rfl, ?_⟩
    simp only [hm]
    congr 1
    exact map_set _ _ rfl
  · refine ⟨rfl, ?_⟩
    unfold Pl10.strip
    simp only [List.map_map]
    rfl
theorem doP_strip (mo mo' : Int) : (doP c rows X o mo).1 = (doP c rows X.strip o mo').1 ∧ (doP c rows X o mo).2.strip = (doP c rows X.strip o mo').2.strip := by
  have hm : ∀ (S : St10) (vs : List Ver10) (rs : List Run10), Pl10.strip ⟨S, vs, rs⟩ = ⟨S, vs, rs.map strip⟩ := fun _ _ _ => rfl
  have hss : X.strip.strip = X.strip := by
    unfold Pl10.strip
    simp only [List.map_map]
    rfl
  have hS : X.strip.S = X.S := rfl
  have hv : X.strip.vs = X.vs := rfl
  have hr : X.strip.rs = X.rs.map strip := rfl
  by_cases hd : o.do_ = 0
  · unfold doP
    rw [if_pos hd, if_pos hd, hS, hv, hr]
    refine ⟨rfl, ?_⟩
    simp only [hm]
    congr 1
    split
    · simp [strip]
    · rw [List.map_map]; rfl
  have ho : ofW X.strip.rs o.tx = ofW X.rs o.tx := ofW_strip _ _
  rcases ofW_is X.rs o.tx with ⟨h1, -⟩ | ⟨i, r, h1, hi, htx, hov⟩
  · rw [doP_none hd h1, doP_none hd (ho.trans h1)]
    exact ⟨rfl, hss.symm⟩
  · rw [doP_some hd h1 hi, doP_some hd (ho.trans h1) (show X.strip.rs[i]? = some (strip r) by rw [hr, List.getElem?_map, hi]; rfl)]
    exact doR_strip i r mo mo'
theorem doP_twin (h : X.strip = Y.strip) (mo mo' : Int) : (doP c rows X o mo).1 = (doP c rows Y o mo').1 ∧ (doP c rows X o mo).2.strip = (doP c rows Y o mo').2.strip := by
  obtain ⟨h1, h2⟩ := doP_strip (X := X) (c := c) (rows := rows) (o := o) mo 0
  obtain ⟨h3, h4⟩ := doP_strip (X := Y) (c := c) (rows := rows) (o := o) mo' 0
  rw [h] at h1 h2
  exact ⟨h1.trans h3.symm, h2.trans h4.symm⟩
theorem deps_strip (vs : List Ver10) (rs : List Run10) : depsP vs (rs.map strip) = depsP vs rs := by
  unfold depsP
  rw [List.zipIdx_map, List.flatMap_map]
  rfl
structure Cnt10 (R a q d : Nat) (X : Pl10) : Prop where
  n : X.rs.length ≤ a
  r : (X.rs.map (·.reads.length)).sum ≤ q * R
  w : ∀ r ∈ X.rs, r.writes.length ≤ q
  v : X.vs.length ≤ d * q
variable {R a q d : Nat}
theorem Cnt10.mono (h : Cnt10 R a q d X) {a' q' d' : Nat} (ha : a ≤ a') (hq : q ≤ q') (hd : d ≤ d') : Cnt10 R a' q' d' X :=
  ⟨Nat.le_trans h.n ha, Nat.le_trans h.r (Nat.mul_le_mul_right _ hq), fun r hr => Nat.le_trans (h.w r hr) hq, Nat.le_trans h.v (Nat.mul_le_mul hd hq)⟩
theorem sum_set {rs : List Run10} {i k : Nat} {r r' : Run10} (hi : rs[i]? = some r) (hr : r'.reads.length ≤ r.reads.length + k) : ((rs.set i r').map (·.reads.length)).sum ≤ (rs.map (·.reads.length)).sum + k := by
  induction rs generalizing i with
  | nil => simp at hi
  | cons x rs ih =>
    cases i with
    | zero =>
      obtain rfl : x = r := by simpa using hi
      simp only [List.set_cons_zero, List.map_cons, List.sum_cons]
      omega
    | succ i =>
      have := ih (i := i) (by simpa using hi)
      simp only [List.set_cons_succ, List.map_cons, List.sum_cons]
      omega
theorem sum_at {rs : List Run10} {i : Nat} {r : Run10} (hi : rs[i]? = some r) : r.reads.length ≤ (rs.map (·.reads.length)).sum := by
  induction rs generalizing i with
  | nil => simp at hi
  | cons x rs ih =>
    cases i with
    | zero =>
      obtain rfl : x = r := by simpa using hi
      simp only [List.map_cons, List.sum_cons]
      omega
    | succ i =>
      have := ih (i := i) (by simpa using hi)
      simp only [List.map_cons, List.sum_cons]
      omega
theorem Cnt10.set (h : Cnt10 R a q d X) {i : Nat} {r r' : Run10} (hi : X.rs[i]? = some r) (hr : r'.reads.length ≤ r.reads.length + R) (hw : r'.writes.length ≤ r.writes.length + 1) (S : St10) (vs : List Ver10) (hv : vs.length ≤ X.vs.length + r.writes.length) : Cnt10 R a (q + 1) (d + 1) ⟨S, vs, X.rs.set i r'⟩ := by
  have hwr := h.w r (List.mem_of_getElem? hi)
  refine ⟨by simp only [List.length_set]; exact h.n, ?_, fun u hu => ?_, ?_⟩
  · have := sum_set hi hr
    have := h.r
    simp only
    rw [Nat.succ_mul]
    omega
  · rcases List.mem_or_eq_of_mem_set hu with hu | rfl
    · have := h.w u hu; omega
    · omega
  · have := h.v
    simp only
    have e : (d + 1) * (q + 1) = d * q + d + (q + 1) := by rw [Nat.succ_mul, Nat.mul_succ]
    omega
theorem lay_len (vs : List Ver10) (num by_ : Int) (ls : List Lk) : (layP vs num by_ ls).length = vs.length + ls.length := by
  unfold layP
  induction ls generalizing vs with
  | nil => rfl
  | cons l ls ih =>
    rw [List.foldl_cons, ih, List.length_cons]
    have : (layV vs num by_ l).length = vs.length + 1 := by unfold layV; split <;> simp
    omega
theorem Cnt10.do (h : Cnt10 R a q d X) (hR : 1 ≤ R) (hrow : rows.length ≤ R) (hd : o.do_ ≠ 0) : Cnt10 R a (q + 1) (d + 1) (doP c rows X o mo).2 := by
  have h' : Cnt10 R a (q + 1) (d + 1) X := h.mono (Nat.le_refl _) (Nat.le_succ _) (Nat.le_succ _)
  rcases ofW_is X.rs o.tx with ⟨h1, -⟩ | ⟨i, r, h1, hi, htx, hov⟩
  · rw [doP_none hd h1]; exact h'
  rw [doP_some hd h1 hi]
  unfold doR
  split
  · refine h.set hi ?_ ?_ _ _ (by omega) <;> split
    · unfold seesP; split <;> simp; omega
    · show r.reads.length ≤ _; omega
    · unfold seesP; split <;> simp
    · show r.writes.length ≤ _; omega
  split
  · refine h.set hi ?_ ?_ _ _ (by omega) <;> split
    · have h2 := sees_len X.vs (rows.filter (inS o.at_.1 o.at_.2 o.to_)) r
      have h3 := List.length_filter_le (inS o.at_.1 o.at_.2 o.to_) rows
      omega
    · show r.reads.length ≤ _; omega
    · rw [(sees_fields X.vs _ r).2.2.2.2.2.2.1]; omega
    · show r.writes.length ≤ _; omega
  split
  · refine h.set hi ?_ ?_ _ _ (by omega) <;> split
    · show r.reads.length ≤ _; omega
    · show r.reads.length ≤ _; omega
    · unfold wroteR; simp only; split <;> simp
    · show r.writes.length ≤ _; omega
  split
  · refine h.set hi ?_ ?_ _ _ ?_
    · split <;> (show r.reads.length ≤ _; omega)
    · split <;> (show r.writes.length ≤ _; omega)
    · split
      · rw [lay_len]; omega
      · omega
  split
  · refine h.set hi ?_ ?_ _ _ (Nat.le_add_right _ _)
    · show r.reads.length ≤ _; omega
    · show r.writes.length ≤ _; omega
  · exact h'
theorem Cnt10.begin (h : Cnt10 R a q d X) (hd : o.do_ = 0) : Cnt10 R (a + 1) q d (doP c rows X o mo).2 := by
  unfold doP
  rw [if_pos hd]
  refine ⟨?_, ?_, ?_, h.v⟩
  · simp only
    split
    · rw [List.length_append]; have := h.n; simp; omega
    · have := h.n; omega
  · simp only
    split
    · have := h.r; simp; omega
    · exact h.r
  · simp only
    split
    · intro u hu
      rcases List.mem_append.1 hu with hu | hu
      · exact h.w u hu
      · rw [List.mem_singleton.1 hu]; exact Nat.zero_le _
    · exact h.w
theorem Cnt10.all (h : Cnt10 R a q d X) (hR : 1 ≤ R) (hrow : rows.length ≤ R) : Cnt10 R (a + 1) (q + 1) (d + 1) (doP c rows X o mo).2 := by
  by_cases hd : o.do_ = 0
  · exact (h.begin hd).mono (Nat.le_refl _) (Nat.le_succ _) (Nat.le_succ _)
  · exact (h.do hR hrow hd).mono (Nat.le_succ _) (Nat.le_refl _) (Nat.le_refl _)
end
end Go.Proofs.YtknppiebncdjmaaGreat
