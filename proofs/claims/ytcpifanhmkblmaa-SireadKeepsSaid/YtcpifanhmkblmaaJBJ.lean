import Derived.Test.YtcpifanhmkblmaaProg
import Derived.Shelf.SlGeneric
import Derived.Shelf.SortM.Plain
import Derived.Shelf.SortM.SortNone
import Derived.Ground.SlgmProg
import Derived.Test.YtcpifanhmkblmaaSRow
import Derived.Test.YtcpifanhmkblmaaJBI
import Derived.Test.YtcpifanhmkblmaaJBF
/- Layer 9: slices.Sort of numbers at this seat, in plain words (made by program: wip/law/XSpShelfNLay.lean.tpl). -/
namespace Go.Proofs
set_option maxRecDepth 100000
open Go.Shelf
def Try.sortN_ren : Go.Shelf.Ren := ⟨fun | 5 => 49 | 8 => 63 | 7 => 62 | 19 => 83 | 20 => 84 | 10 => 74 | 11 => 75 | 12 => 76 | 13 => 77 | 14 => 78 | 15 => 79 | 16 => 80 | 17 => 81 | 18 => 82 | 30 => 96 | 31 => 97 | 32 => 98 | 33 => 99 | 34 => 100 | 35 => 95 | 40 => 105 | n => n, fun | 23 => 39 | 25 => 2 | 3 => 3 | 32 => 99 | 22 => 39 | 0 => 0 | 44 => 119 | 46 => 121 | 4 => 4 | 36 => 111 | 35 => 110 | 41 => 116 | 5 => 5 | 9 => 9 | 53 => 129 | 57 => 133 | 63 => 138 | 64 => 139 | n => n, fun | n => n⟩
theorem Try.sortN : Go.Proofs.SlLaysM.n5 Try.prog Try.sortN_ren := {
  mixed := by kernel_rfl
  f5 := ⟨Try.f49.name, by decide, Try.func49.trans (congrArg some (by kernel_rfl))⟩
  f7 := ⟨Try.f62.name, by decide, Try.func62.trans (congrArg some (by kernel_rfl))⟩
  f8 := Try.func63.trans (congrArg some (by kernel_rfl))
  f10 := ⟨Try.f74.name, by decide, Try.func74.trans (congrArg some (by kernel_rfl))⟩
  f11 := ⟨Try.f75.name, by decide, Try.func75.trans (congrArg some (by kernel_rfl))⟩
  f12 := ⟨Try.f76.name, by decide, Try.func76.trans (congrArg some (by kernel_rfl))⟩
  f13 := ⟨Try.f77.name, by decide, Try.func77.trans (congrArg some (by kernel_rfl))⟩
  f14 := ⟨Try.f78.name, by decide, Try.func78.trans (congrArg some (by kernel_rfl))⟩
  f15 := ⟨Try.f79.name, by decide, Try.func79.trans (congrArg some (by kernel_rfl))⟩
  f16 := ⟨Try.f80.name, by decide, Try.func80.trans (congrArg some (by kernel_rfl))⟩
  f17 := ⟨Try.f81.name, by decide, Try.func81.trans (congrArg some (by kernel_rfl))⟩
  f18 := ⟨Try.f82.name, by decide, Try.func82.trans (congrArg some (by kernel_rfl))⟩
  f19 := Try.func83.trans (congrArg some (by kernel_rfl))
  f20 := Try.func84.trans (congrArg some (by kernel_rfl))
  f30 := ⟨Try.f96.name, by decide, Try.func96.trans (congrArg some (by kernel_rfl))⟩
  f31 := Try.func97.trans (congrArg some (by kernel_rfl))
  f32 := Try.func98.trans (congrArg some (by kernel_rfl))
  f33 := ⟨Try.f99.name, by decide, Try.func99.trans (congrArg some (by kernel_rfl))⟩
  f34 := ⟨Try.f100.name, by decide, Try.func100.trans (congrArg some (by kernel_rfl))⟩
  f35 := ⟨Try.f95.name, by decide, Try.func95.trans (congrArg some (by kernel_rfl))⟩
  f40 := ⟨Try.f105.name, by decide, Try.func105.trans (congrArg some (by kernel_rfl))⟩
  t0 := Try.underlying0
  a0 := Try.isAgg0
  z0 := Try.sizeOf0
  v0 := Try.zeroValue0
  t3 := Try.underlying3
  a3 := Try.isAgg3
  z3 := Try.sizeOf3
  v3 := Try.zeroValue3
  t4 := Try.underlying4
  a4 := Try.isAgg4
  z4 := Try.sizeOf4
  v4 := Try.zeroValue4
  t5 := Try.underlying5
  a5 := Try.isAgg5
  z5 := Try.sizeOf5
  v5 := Try.zeroValue5
  t9 := Try.underlying9
  a9 := Try.isAgg9
  z9 := Try.sizeOf9
  v9 := Try.zeroValue9
  t22 := Try.underlying39
  a22 := Try.isAgg39
  z22 := Try.sizeOf39
  v22 := Try.zeroValue39
  t23 := Try.underlying39
  a23 := Try.isAgg39
  z23 := Try.sizeOf39
  v23 := Try.zeroValue39
  t25 := Try.underlying2
  a25 := Try.isAgg2
  z25 := Try.sizeOf2
  v25 := Try.zeroValue2
  t32 := Try.underlying99
  a32 := Try.isAgg99
  z32 := Try.sizeOf99
  v32 := Try.zeroValue99
  t35 := Try.underlying110
  a35 := Try.isAgg110
  z35 := Try.sizeOf110
  v35 := Try.zeroValue110
  t36 := Try.underlying111
  a36 := Try.isAgg111
  z36 := Try.sizeOf111
  v36 := Try.zeroValue111
  t41 := Try.underlying116
  a41 := Try.isAgg116
  z41 := Try.sizeOf116
  v41 := Try.zeroValue116
  t44 := Try.underlying119
  a44 := Try.isAgg119
  z44 := Try.sizeOf119
  v44 := Try.zeroValue119
  t46 := Try.underlying121
  a46 := Try.isAgg121
  z46 := Try.sizeOf121
  v46 := Try.zeroValue121
  t53 := Try.underlying129
  a53 := Try.isAgg129
  z53 := Try.sizeOf129
  v53 := Try.zeroValue129
  t57 := Try.underlying133
  a57 := Try.isAgg133
  z57 := Try.sizeOf133
  v57 := Try.zeroValue133
  t63 := Try.underlying138
  a63 := Try.isAgg138
  z63 := Try.sizeOf138
  v63 := Try.zeroValue138
  t64 := Try.underlying139
  a64 := Try.isAgg139
  z64 := Try.sizeOf139
  v64 := Try.zeroValue139 }
end Go.Proofs

/- Layer 9: slices.Sort of numbers that the call itself made, by its contract. -/
namespace Go.Proofs.Ytcpifanhmkblmaa
set_option maxRecDepth 100000
set_option maxRecDepth 100000
open Go.RowKit

theorem sorted_heap (w : World) (m g : Nat) (ys : Array Int) (os : Array Obj) (k : Nat) (hk : k < w.heap.size) :
    (Sort.grow (Sort.putRow (Value.int .i64) (Sort.ahead w m) g 0 ys) os).heap[k]? = if k = g then (w.heap[k]?).map (Sort.onCells (Sort.putCells (Value.int .i64) 0 ys)) else w.heap[k]? := by
  unfold Sort.grow Sort.putRow Sort.mapBlock Sort.ahead
  simp only
  rw [Array.getElem?_append_left (by simpa using hk), Array.getElem?_modify]
  by_cases e : g = k
  · subst e; simp
  · rw [if_neg e, if_neg (Ne.symm e)]
theorem so_sorted {base n c g m : Nat} {w : World} {zs ys : List Int} {os : Array Obj} (h : SO seN base w (.slice (some ⟨g, 0, none⟩) n c) n (numC zs)) (hl : ys.length = n) :
    SO seN base (Sort.grow (Sort.putRow (Value.int .i64) (Sort.ahead w m) g 0 ys.toArray) os) (.slice (some ⟨g, 0, none⟩) n c) n (numC ys) := by
  rcases h.own.2 with ⟨hv, -⟩ | ⟨g', cap, cur, hv, hb, hh, hc, hm, hsz, ht⟩
  · cases hv
  · obtain ⟨rfl, rfl⟩ : g = g' ∧ c = cap := by simpa using hv
    refine ⟨⟨by rw [numC_len, hl]; show n = n * 1; omega, .inr ⟨g, c, Sort.putCells (Value.int .i64) 0 ys.toArray cur, rfl, hb, ?_, hc, hm, by simpa [Sort.putCells] using hsz, ?_⟩⟩, by rw [numC_len, hl]; show n = 1 * n; omega, numC_one _⟩
    · rw [sorted_heap _ _ _ _ _ _ (Array.getElem?_eq_some_iff.1 hh).1, if_pos rfl, hh]; rfl
    · have hcs : cur.size = c * 1 := hsz
      apply List.ext_getElem?
      intro k
      show (List.take (n * 1) _)[k]? = _
      rw [List.getElem?_take, Nat.mul_one]
      by_cases hk : k < n
      · rw [if_pos hk]
        have h1 : k < cur.size := by omega
        have h2 : k < ys.length := by omega
        simp [Sort.putCells, numC, h1, h2, Array.getElem?_eq_getElem]
      · rw [if_neg hk, List.getElem?_eq_none (by rw [numC_len]; omega)]
theorem so_sorted_out {g m : Nat} {w : World} {ys : List Int} {os : Array Obj} : Out (fun k => k = g) w (Sort.grow (Sort.putRow (Value.int .i64) (Sort.ahead w m) g 0 ys.toArray) os) :=
  ⟨rfl, rfl, rfl, by simp [Sort.grow, Sort.putRow, Sort.mapBlock, Sort.ahead], fun k hk hn => by
    rw [sorted_heap _ _ _ _ _ _ hk, if_neg hn]⟩
/-- slices.Sort of a list that the call made. -/
theorem wsortN {base : Nat} {w : World} {v : Value} {zs : List Int} (h : SO seN base w v zs.length (numC zs)) (hn : zs.length ≤ 4000000) :
    Calls Try.prog 49 #[v] w fun e w' => e = .returned (.tuple #[]) ∧ SO seN base w' v zs.length (numC (zs.mergeSort fun x y => decide (x ≤ y))) ∧ Below base w w' := by
  rcases h.own.2 with ⟨rfl, h0⟩ | ⟨g, cap, cur, rfl, hb, hh, -⟩
  · have hz : zs = [] := List.eq_nil_of_length_eq_zero h0
    subst hz
    have hcon := AnyM.slices_Sort_int_none Try.sortN none 0 w
    change Calls Try.prog 49 _ _ _ at hcon
    refine hcon.mono ?_
    rintro e w' ⟨h1, rfl⟩
    exact ⟨h1, by simpa using h, Below.refl _ _⟩
  · obtain ⟨A, c, e1, hsb, -⟩ := h.form
    obtain ⟨rfl, rfl⟩ : A = some ⟨g, 0, none⟩ ∧ c = cap := by
      simp at e1; exact ⟨e1.1.symm, e1.2.symm⟩
    rw [show seN.s * zs.length = zs.length from Nat.one_mul _] at hsb
    have hH : Sort.Holds (Value.int .i64) w g 0 zs.toArray := fun j hj => by
      have hj' : j < zs.length := by simpa using hj
      obtain ⟨x, hx⟩ : ∃ x, zs[j]? = some x := ⟨_, List.getElem?_eq_getElem hj'⟩
      obtain ⟨g1, o1, e2, hc⟩ := hsb.at_ (numC_at hx)
      cases e2
      refine ⟨?_, frozen_of_row _ _ _ _ _ hh⟩
      rw [hc]
      simp [hx, getElem!_pos, hj']
      rw [List.getElem?_eq_getElem hj'] at hx
      exact (Option.some.inj hx).symm
    have hlt := (Array.getElem?_eq_some_iff.1 hh).1
    have hcon := AnyM.slices_Sort_int Try.sortN g 0 c zs w hH hlt (by omega)
    change Calls Try.prog 49 _ _ _ at hcon
    refine hcon.mono ?_
    rintro e w' ⟨h1, m, os, rfl⟩
    exact ⟨h1, so_sorted h (List.length_mergeSort _), so_sorted_out.below (by omega) fun i hi e => by omega⟩
end Go.Proofs.Ytcpifanhmkblmaa

/- Layer 9: Txns, Readers. -/
namespace Go.Proofs.Ytcpifanhmkblmaa
set_option maxRecDepth 100000
set_option maxRecDepth 100000
open Go.RowKit

theorem SO.stays {E : SEl} {base n : Nat} {w w' : World} {v : Value} {vs : List Value} (h : SO E base w v n vs) (hb : ∀ k, base ≤ k → k < w.heap.size → w'.heap[k]? = w.heap[k]?) : SO E base w' v n vs :=
  ⟨own_stays h.own fun k hk => hb k (h.own.lt k hk).1 (h.own.lt k hk).2, h.len, h.one⟩
theorem SO.lower {E : SEl} {base base' n : Nat} {w : World} {v : Value} {vs : List Value} (h : SO E base w v n vs) (hb : base' ≤ base) : SO E base' w v n vs := ⟨own_base h.own fun k hk => Nat.le_trans hb (h.own.lt k hk).1, h.len, h.one⟩
/-- Between two rounds. -/
structure TellI (w wz : World) (mb it : Nat) (X : List Tx9) (f : Tx9 → Bool) (lv : Value) (zs : List Int) (left : List (Int × Value)) : Prop where
  so : SO seN (it + 1) wz lv zs.length (numC zs)
  col : ColJ X f zs left
  rng : RangeM KI wz mb it (topX X) left
  bel : Below w.heap.size w wz
theorem TellI.next {w wz wn wV : World} {mb it : Nat} {X : List Tx9} {f : Tx9 → Bool} {lv lv' : Value} {zs zs' : List Int} {left left' : List (Int × Value)} (I : TellI w wz mb it X f lv zs left) (hg : wz.grownBy wn (some it)) (hr : RangeM KI wn mb it (topX X) left') (hc : ColJ X f zs' left') (hso : SO seN (it + 1) wV lv' zs'.length (numC zs')) (hb : Below (it + 1) wn wV) (hit : w.heap.size ≤ it) (hmb : mb < w.heap.size) : TellI w wV mb it X f lv' zs' left' :=
  ⟨hso, hc, hr.kept (hb.block mb (by omega)) (hb.block it (by omega)), (I.bel.trans (grown_below hg I.bel.size hit)).trans (hb.mono (by omega))⟩
def allJ (_ : Tx9) : Bool := true
def ListRes (w : World) (zs : List Int) (e : Ending) (w' : World) : Prop := ∃ v, e = .returned v ∧ SO seN w.heap.size w' v zs.length (numC zs) ∧ Below w.heap.size w w'
set_option maxHeartbeats 8000000 in
theorem wpTxns9 {w : World} {r mb most : Nat} {X : List Tx9} (h : Mem9 NoE w r mb most (flatX X).length X) (hm1 : 1 ≤ most) (hl : (flatX X).length ≤ 65536) :
    Calls Try.prog 26 #[.pointer (some ⟨r, 0, none⟩)] w (ListRes w (txP (flatX X) fun _ => true)) := by
  have hR : RBlk w r mb most _ := h.blk
  have CA := Lib.hid (wpAll hR hm1)
  have hM := Lib.hid h
  have HLX := Lib.hid (len_tx (X := X) fun e he => ⟨(h.ne e he).1, fun q hq => (h.ok e he q hq).ne⟩)
  have HL := Lib.hid hl
  have HF := Lib.hid (fun (zs : List Int) (hc : ColJ X allJ zs []) => hc.ends (g := fun _ => true) fun e he => ⟨fun _ => by
    obtain ⟨q, hq⟩ := List.exists_mem_of_ne_nil _ (h.ne e he).1
    obtain ⟨z, hz⟩ := List.exists_mem_of_ne_nil _ (h.ok e he q hq).ne
    exact ⟨q, hq, z, hz, rfl⟩, fun _ => rfl⟩)
  clear h hR hl
  go_enter Try.func26, Try.ntmps26
  go_upto_region 3 with (first
    | (go_at_call 48; go_loud (refine CA.out.mono ?_; rintro e w1 ⟨rfl, hw⟩; replace hw := hw.symm; subst hw))
    | (at_range; go_loud (refine wp_rangeM KI (by rfl) (.tmp 6) (by rfl) (by rfl) hM.out.top Try.underlying55 ?_; intro w2 g2 b2 s2; have G2 := Lib.hid g2; have B2 := Lib.hid b2; clear g2 b2 s2)))
  have START := Lib.hid (show TellI w w2 mb w.heap.size X allJ (.slice none 0 0) [] (topX X) from ⟨SO.nil _ _ _, ColJ.start _ _, G2.out, grown_none B2.out (Nat.le_refl _)⟩)
  try go_frame
  go_loopw [3] (fun lv wz => ∃ (zs : List Int) (left : List (Int × Value)), TellI w wz mb w.heap.size X allJ lv zs left) (fun _ wz => wz.rangeLeft mb w.heap.size)
  case atStart => exact ⟨[], topX X, START.out⟩
  case round =>
    rename World => wz
    obtain ⟨zs, left, o⟩ := hrel
    have I := Lib.hid o
    have ZL := Lib.hid (show zs.length ≤ 65536 by have h1 := o.col.len; have h2 := HLX.out; have h3 := HL.out; omega)
    clear o
    go_upto_region 5 with (at_next; go_loud (refine wp_nextI (by rfl) (.tmp 7) (by rfl) w.heap.size left (by rfl) I.out.rng ?_ ?_))
    · intro hnil
      subst hnil
      have CS := Lib.hid (wsortN I.out.so (by have := ZL.out; omega))
      have SR := Lib.hid (HF.out _ I.out.col)
      go_wp2_with (go_at_call 49; go_loud (refine CS.out.mono ?_; rintro e w5 ⟨rfl, o5, g5⟩; have O5 := Lib.hid o5; have B5 := Lib.hid (I.out.bel.trans (g5.mono (Nat.le_succ _))); clear o5 g5))
      go_ret
      refine ⟨_, rfl, ?_, B5.out⟩
      rw [← SR.out, List.length_mergeSort]
      exact O5.out.lower (Nat.le_succ _)
    · intro t v wn hin hok hr2 hg2 hsz hlt hen
      obtain ⟨e, he, e1⟩ := List.mem_map.1 (I.out.rng.sub _ hin)
      simp only [Prod.mk.injEq] at e1
      obtain ⟨rfl, rfl⟩ := e1
      have hct := I.out.col.take hM.out.once I.out.rng.once he hin rfl
      have hitl := RangeM.it_lt hr2
      obtain ⟨V, hV⟩ : ∃ V, wn.alloc (.cells #[.int .i64 e.1] 2) = V := ⟨_, rfl⟩
      have HV := Lib.hid hV
      have bV : Below wn.heap.size wn V := by rw [← hV]; exact below_alloc9 _ _
      have hc0 : V.cell? ⟨wn.heap.size, 0, none⟩ = some (.int .i64 e.1) := by rw [← hV]; exact cell_of_row _ _ 0 _ _ _ (heap_alloc_new _ _)
      have hSB : SB V (some ⟨wn.heap.size, 0, none⟩) (seN.s * 1) (numC [e.1]) := ⟨rfl, numC_one _, fun _ => ⟨_, 0, rfl, fun j u hj => by
        match j, hj with
        | 0, hj => cases hj; exact hc0⟩⟩
      have SBV := Lib.hid hSB
      have SOV := Lib.hid ((I.out.so.stays fun k hk hk2 => hg2.block k hk2 (fun e => by have := Option.some.inj e; omega)).below bV)
      have NX := Lib.hid (fun (lv' : Value) (wV : World) (hso : SO seN (w.heap.size + 1) wV lv' (zs.length + 1) (numC zs ++ numC [e.1])) (hb : Below (w.heap.size + 1) V wV) => I.out.next hg2 hr2 hct (by rw [List.length_append]; rw [show numC (zs ++ [e.1]) = numC zs ++ numC [e.1] by simp [numC]]; exact hso) ((bV.mono hitl).trans hb) (Nat.le_refl _) hM.out.top.lt)
      have ML := Lib.hid (fun (wV : World) (hb : Below (w.heap.size + 1) V wV) => show wV.rangeLeft mb w.heap.size < wz.rangeLeft mb w.heap.size by
        have h1 := hM.out.top.lt
        have hb2 := (bV.mono hitl).trans hb
        rw [left_kept (hb2.block mb (by omega)) (hb2.block _ (by omega))]; exact hlt)
      have HVs := Lib.hid (show w.heap.size + 1 ≤ V.heap.size by have := bV.size; omega)
      clear hin hok hr2 hg2 hsz hlt hct hitl hV bV hc0 hSB
      go_upto_region 5 with fail
      go_wp2_with (at_builtin; go_loud (rw [HV.out]; refine so_append seN_ok (by rfl) (.tmp 12) (.tmp 14) (by rfl) _ (by rfl) SOV.out (some ⟨wn.heap.size, 0, none⟩) 1 1 (numC [e.1]) (by rfl) SBV.out (by have := ZL.out; omega) HVs.out ?_; intro v3 w3 o3 b3; have N3 := Lib.hid (NX.out v3 w3 o3 b3); have L3 := Lib.hid (ML.out w3 b3); clear o3 b3))
      go_roundw
      case rel => exact ⟨_, _, N3.out⟩
      case measure => exact L3.out
end Go.Proofs.Ytcpifanhmkblmaa
