import Derived.Test.YtknppiebncdjmaaGreatJBE
import Derived.Test.YtknppiebncdjmaaGreatJAV
import Derived.Laws.IdiomRangeMap
import Derived.Test.YtknppiebncdjmaaGreatJAN
set_option linter.unusedVariables false
namespace Go.Proofs.YtknppiebncdjmaaGreat
set_option maxRecDepth 100000
open Go.RowKit

set_option maxHeartbeats 8000000 in
theorem wpReaders9 {w : World} {r mb most : Nat} {X : List Tx9} (h : Mem9 NoE w r mb most (flatX X).length X) (hm1 : 1 ≤ most) (hl : (flatX X).length ≤ 65536) (tb key : ByteArray) (htb : tb.size ≤ maxLen) (hk : key.size ≤ 140737488355328) :
    Calls Tryz.prog 54 #[.pointer (some ⟨r, 0, none⟩), .string tb, .string key] w (ListRes w (txP (flatX X) fun n => hasP n.2 tb key)) := by
  obtain ⟨W, hW⟩ : ∃ V, w.alloc (.cells #[.string tb, .int .i64 1, .string key, .string ⟨#[]⟩] 114) = V := ⟨_, rfl⟩
  have HW := Lib.hid hW
  have bW : Below w.heap.size w W := by rw [← hW]; exact below_alloc9 _ _
  have hx : RdAt W w.heap.size (keyR tb key) := by rw [← hW]; exact rd_box w (keyR tb key)
  have hWs : W.heap.size = w.heap.size + 1 := by rw [← hW]; simp
  obtain ⟨it, hit⟩ : ∃ it, W.heap.size = it := ⟨_, rfl⟩
  have hMW0 := h.gw bW
  have hR : RBlk W r mb most _ := hMW0.blk
  have CA := Lib.hid (wpAll hR hm1)
  have hM := Lib.hid h
  have hMW := Lib.hid hMW0
  have HB := Lib.hid bW
  have HXB := Lib.hid hx
  have HI := Lib.hid (And.intro hit hWs)
  have HLX := Lib.hid (len_tx (X := X) fun e he => ⟨(h.ne e he).1, fun q hq => (h.ok e he q hq).ne⟩)
  have HL := Lib.hid hl
  have HT := Lib.hid (And.intro htb hk)
  have HF := Lib.hid (fun (zs : List Int) (hc : ColJ X (readsJ tb key) zs []) => hc.ends (g := fun n => hasP n.2 tb key) (reads_is h tb key))
  clear h hR hl hW bW hx hWs hit hMW0 htb hk
  go_enter Tryz.func54, Tryz.ntmps54
  go_upto_region 2 with fail
  rw [HW.out]
  go_upto_region 4 with (first
    | (go_at_call 88; go_loud (refine CA.out.mono ?_; rintro e w1 ⟨rfl, hw⟩; replace hw := hw.symm; subst hw))
    | (at_range; go_loud (refine wp_rangeM KI (by rfl) (.tmp 15) (by rfl) (by rfl) hMW.out.top Tryz.underlying153 ?_; intro w2 g2 b2 s2; have G2 := Lib.hid g2; have B2 := Lib.hid b2; clear g2 b2 s2)))
  rw [HI.out.1]
  have G2b := Lib.hid (show RangeM KI w2 mb it (topX X) (topX X) by have := G2.out; rw [HI.out.1] at this; exact this)
  have BG := Lib.hid (grown_none B2.out (Nat.le_refl _))
  have START := Lib.hid (show TellI w w2 mb it X (readsJ tb key) (.slice none 0 0) [] (topX X) from ⟨SO.nil _ _ _, ColJ.start _ _, G2b.out, below_next HB.out BG.out⟩)
  have SX := Lib.hid (HXB.out.block (BG.out.block _ HXB.out.lt))
  try go_frame
  go_loopw [8] (fun lv wz => ∃ (zs : List Int) (left : List (Int × Value)), TellI w wz mb it X (readsJ tb key) lv zs left ∧ RdAt wz w.heap.size (keyR tb key)) (fun _ wz => wz.rangeLeft mb it)
  case atStart => exact ⟨[], topX X, START.out, SX.out⟩
  case round =>
    rename World => wz
    obtain ⟨zs, left, o, ox⟩ := hrel
    have I := Lib.hid o
    have HOX := Lib.hid ox
    have ZL := Lib.hid (show zs.length ≤ 65536 by have h1 := o.col.len; have h2 := HLX.out; have h3 := HL.out; omega)
    clear o ox
    go_upto_region 5 with (at_next; go_loud (refine wp_nextI (by rfl) (.tmp 16) (by rfl) it left (by rfl) I.out.rng ?_ ?_))
    · intro hnil
      subst hnil
      have CS := Lib.hid (wsortN I.out.so (by have := ZL.out; omega))
      have SR := Lib.hid (HF.out _ I.out.col)
      go_wp2_with (go_at_call 89; go_loud (refine CS.out.mono ?_; rintro e w5 ⟨rfl, o5, g5⟩; have O5 := Lib.hid o5; have B5 := Lib.hid (I.out.bel.trans (g5.mono (by have := HI.out; omega))); clear o5 g5))
      go_ret
      refine ⟨_, rfl, ?_, B5.out⟩
      rw [← SR.out, List.length_mergeSort]
      exact O5.out.lower (by have := HI.out; omega)
    · intro t v wn hin hok hr2 hg2 hsz hlt hen
      obtain ⟨e, he, e1⟩ := List.mem_map.1 (I.out.rng.sub _ hin)
      simp only [Prod.mk.injEq] at e1
      obtain ⟨rfl, rfl⟩ := e1
      have hitl := RangeM.it_lt hr2
      have hwi : w.heap.size < it ∧ mb < w.heap.size := ⟨by have := HI.out; omega, hM.out.top.lt⟩
      have hxn : RdAt wn w.heap.size (keyR tb key) := HOX.out.block (hg2.block _ HOX.out.lt (fun e => by have := Option.some.inj e; omega))
      have hbn : Below w.heap.size w wn := I.out.bel.trans (grown_below hg2 I.out.bel.size (by omega))
      obtain ⟨sv, ls, q1, q2, q3, q4, q5, q6⟩ := tab_look hM.out HL.out hbn he tb key HT.out.1
      have CC := Lib.hid (wpCover q2 q3 q4 q5 (keyR tb key) HT.out.2)
      rw [q6] at CC
      obtain ⟨x0, x1, x2, x3⟩ := hxn.cells
      unfold keyR at x0 x1 x2 x3
      unfold rdV keyR at CC
      have SO0 := Lib.hid (I.out.so.stays fun k hk hk2 => hg2.block k hk2 (fun e => by have := Option.some.inj e; omega))
      have HXN := Lib.hid hxn
      have HEE := Lib.hid (And.intro he hin)
      have HR2 := Lib.hid (And.intro hr2 (And.intro hg2 (And.intro hlt (And.intro hitl hwi))))
      cases hf : readsJ tb key e
      · rw [hf] at CC
        have hcs := I.out.col.skip hM.out.once I.out.rng.once he hin hf
        have HCS := Lib.hid hcs
        clear hin hok hr2 hg2 hsz hlt hitl hxn hbn q2 q3 q4 q5 q6 hf hcs he hwi
        go_wp2_with (go_at_call 97; go_loud (refine CC.out.mono ?_; rintro ee w3 ⟨rfl, g3⟩; have G3 := Lib.hid g3; clear g3))
        have hbi : Below (it + 1) wn w3 := G3.out.mono HR2.out.2.2.2.1
        go_roundw
        case rel => exact ⟨zs, delM left e.1, I.out.next HR2.out.2.1 HR2.out.1 HCS.out (SO0.out.below G3.out) hbi (by have := HR2.out.2.2.2.2; omega) HR2.out.2.2.2.2.2, HXN.out.block (G3.out.block _ HXN.out.lt)⟩
        case measure =>
          rw [left_kept (hbi.block mb (by have := HR2.out.2.2.2.2; omega)) (hbi.block it (by omega))]
          exact HR2.out.2.2.1
      · rw [hf] at CC
        have hct := I.out.col.take hM.out.once I.out.rng.once he hin hf
        have HCT := Lib.hid hct
        clear hin hok hr2 hg2 hsz hlt hitl hxn hbn q2 q3 q4 q5 q6 hf hct he hwi
        go_upto_region 7 with (go_at_call 97; go_loud (refine CC.out.mono ?_; rintro ee w3 ⟨rfl, g3⟩; have G3 := Lib.hid g3; clear g3))
        have hbi : Below (it + 1) wn w3 := G3.out.mono HR2.out.2.2.2.1
        obtain ⟨V, hV⟩ : ∃ V, w3.alloc (.cells #[.int .i64 e.1] 2) = V := ⟨_, rfl⟩
        have HV := Lib.hid hV
        have bV : Below w3.heap.size w3 V := by rw [← hV]; exact below_alloc9 _ _
        have hc0 : V.cell? ⟨w3.heap.size, 0, none⟩ = some (.int .i64 e.1) := by rw [← hV]; exact cell_of_row _ _ 0 _ _ _ (heap_alloc_new _ _)
        have hSB : SB V (some ⟨w3.heap.size, 0, none⟩) (seN.s * 1) (numC [e.1]) := ⟨rfl, numC_one _, fun _ => ⟨_, 0, rfl, fun j u hj => by
          match j, hj with
          | 0, hj => cases hj; exact hc0⟩⟩
        have SBV := Lib.hid hSB
        have SOV := Lib.hid ((SO0.out.below G3.out).below bV)
        have hs3 : it + 1 ≤ w3.heap.size := Nat.le_trans HR2.out.2.2.2.1 G3.out.size
        have hbV := hbi.trans (bV.mono hs3)
        have HBV := Lib.hid hbV
        have NX := Lib.hid (fun (lv' : Value) (wV : World) (hso : SO seN (it + 1) wV lv' (zs.length + 1) (numC zs ++ numC [e.1])) (hb : Below (it + 1) V wV) => I.out.next HR2.out.2.1 HR2.out.1 HCT.out (by rw [List.length_append]; rw [show numC (zs ++ [e.1]) = numC zs ++ numC [e.1] by simp [numC]]; exact hso) (HBV.out.trans hb) (by have := HR2.out.2.2.2.2; omega) HR2.out.2.2.2.2.2)
        have ML := Lib.hid (fun (wV : World) (hb : Below (it + 1) V wV) => show wV.rangeLeft mb it < wz.rangeLeft mb it by
          have hb2 := HBV.out.trans hb
          rw [left_kept (hb2.block mb (by have := HR2.out.2.2.2.2; omega)) (hb2.block it (by omega))]; exact HR2.out.2.2.1)
        have XL := Lib.hid (fun (wV : World) (hb : Below (it + 1) V wV) => show RdAt wV w.heap.size (keyR tb key) from HXN.out.block ((HBV.out.trans hb).block _ (by have := HR2.out.2.2.2.2; omega)))
        have HVs := Lib.hid (show it + 1 ≤ V.heap.size by have := bV.size; omega)
        clear hbi hV bV hc0 hSB hs3 hbV x0 x1 x2 x3
        go_wp2_with (at_builtin; go_loud (rw [HV.out]; refine so_append seN_ok (by rfl) (.tmp 27) (.tmp 29) (by rfl) _ (by rfl) SOV.out (some ⟨w3.heap.size, 0, none⟩) 1 1 (numC [e.1]) (by rfl) SBV.out (by have := ZL.out; omega) HVs.out ?_; intro v4 w4 o4 b4; have N4 := Lib.hid (NX.out v4 w4 o4 b4); have L4 := Lib.hid (ML.out w4 b4); have X4 := Lib.hid (XL.out w4 b4); clear o4 b4))
        go_roundw
        case rel => exact ⟨_, _, N4.out, X4.out⟩
        case measure => exact L4.out
end Go.Proofs.YtknppiebncdjmaaGreat

namespace Go.Proofs.YtknppiebncdjmaaGreat
set_option maxRecDepth 100000
open Go.RowKit

def rdsT (T : List Tb9) : List Rd := T.flatMap fun q => q.2.2.map (·.2)
theorem his_tx {X Y : List Tx9} {t : Int} {b : Nat} {T : List Tb9} (hX : X.Perm ((t, b, T) :: Y)) (hY : ∀ e ∈ Y, e.1 ≠ t) : (hisR (flatX X) t).Perm (rdsT T) := by
  unfold hisR
  refine (((flatX_perm hX).filter _).map _).trans ?_
  rw [flatX_cons, List.filter_append]
  have h1 : (flatX Y).filter (fun h => decide (h.1 = t)) = [] := List.filter_eq_nil_iff.2 fun n hn => by
    obtain ⟨e, he, q, hq, z, hz, rfl⟩ := mem_flatX.1 hn
    simp [hY e he]
  have h2 : (flatT t T).filter (fun h => decide (h.1 = t)) = flatT t T := List.filter_eq_self.2 fun n hn => by
    unfold flatT at hn
    simp only [List.mem_flatMap, List.mem_map] at hn
    obtain ⟨q, hq, z, hz, rfl⟩ := hn
    simp
  rw [h1, List.append_nil]
  simp only
  rw [h2]
  refine List.Perm.of_eq ?_
  unfold flatT rdsT
  rw [List.map_flatMap]
  congr 1
  funext q
  rw [List.map_map]
  rfl
theorem his_none {X : List Tx9} {t : Int} (hY : ∀ e ∈ X, e.1 ≠ t) : hisR (flatX X) t = [] := by
  unfold hisR
  rw [List.map_eq_nil_iff]
  exact List.filter_eq_nil_iff.2 fun n hn => by
    obtain ⟨e, he, q, hq, z, hz, rfl⟩ := mem_flatX.1 hn
    simp [hY e he]
theorem mem_his {L : List Nt} {t : Int} {y : Rd} : y ∈ hisR L t ↔ (t, y) ∈ L := by
  unfold hisR
  simp only [List.mem_map, List.mem_filter]
  constructor
  · rintro ⟨n, ⟨h1, h2⟩, rfl⟩
    have : n.1 = t := by simpa using h2
    rw [← this]; exact h1
  · intro h; exact ⟨(t, y), ⟨h, by simp⟩, rfl⟩
structure OfC (T V U : List Tb9) (left : List (ByteArray × Value)) : Prop where
  perm : T.Perm (V ++ U)
  l1 : ∀ q ∈ U, (q.1, q.2.1) ∈ left
  l2 : ∀ x ∈ left, ∃ q ∈ U, x = (q.1, q.2.1)
theorem OfC.start (T : List Tb9) : OfC T [] T (tabT T) := ⟨List.Perm.refl _, fun q hq => List.mem_map.2 ⟨q, hq, rfl⟩, fun x hx => by obtain ⟨q, hq, e⟩ := List.mem_map.1 hx; exact ⟨q, hq, e.symm⟩⟩
theorem OfC.next {T V U : List Tb9} {left : List (ByteArray × Value)} (h : OfC T V U left) (hT : (T.map (·.1)).Nodup) {x : ByteArray × Value} (hx : x ∈ left) : ∃ q ∈ T, x = (q.1, q.2.1) ∧ ∃ U', OfC T (V ++ [q]) U' (delM left q.1) := by
  obtain ⟨q, hq, rfl⟩ := h.l2 x hx
  have hn := (h.perm.map (·.1)).nodup_iff.1 hT
  rw [List.map_append, List.nodup_append] at hn
  have hp := perm_front (·.1) hn.2.1 hq
  refine ⟨q, h.perm.mem_iff.2 (List.mem_append.2 (.inr hq)), rfl, U.filter fun x => !decide (x.1 = q.1), ?_, fun p hp2 => ?_, fun x hx => ?_⟩
  · refine h.perm.trans ?_
    rw [List.append_assoc]
    exact hp.append_left V
  · obtain ⟨h1, h2⟩ := List.mem_filter.1 hp2
    exact mem_delM.2 ⟨h.l1 p h1, by simpa using h2⟩
  · obtain ⟨a, v⟩ := x
    obtain ⟨h1, h2⟩ := mem_delM.1 hx
    obtain ⟨p, hp1, e⟩ := h.l2 _ h1
    refine ⟨p, List.mem_filter.2 ⟨hp1, ?_⟩, e⟩
    have : a = p.1 := congrArg Prod.fst e
    simpa [← this] using h2
theorem OfC.len {T V U : List Tb9} {left : List (ByteArray × Value)} (h : OfC T V U left) : (rdsT V).length ≤ (rdsT T).length := by
  have h1 := (h.perm.flatMap_right fun q => q.2.2.map (·.2)).length_eq
  unfold rdsT
  rw [h1, List.flatMap_append, List.length_append]
  omega
theorem rdsT_app (V : List Tb9) (q : Tb9) : rdsT (V ++ [q]) = rdsT V ++ q.2.2.map (·.2) := by simp [rdsT]
structure OfI (w wz : World) (b it : Nat) (T V U : List Tb9) (lv : Value) (left : List (ByteArray × Value)) : Prop where
  so : SO seR (it + 1) wz lv (rdsT V).length (cellsR (rdsT V))
  col : OfC T V U left
  rng : RangeM KS wz b it (tabT T) left
  bel : Below w.heap.size w wz
def OfRes (w : World) (xs : List Rd) (e : Ending) (w' : World) : Prop := ∃ v, e = .returned v ∧ SO seR w.heap.size w' v xs.length (cellsR xs) ∧ Below w.heap.size w w'
set_option maxHeartbeats 8000000 in
theorem wpOf9 {w : World} {r mb most : Nat} {X : List Tx9} (h : Mem9 NoE w r mb most (flatX X).length X) (hm1 : 1 ≤ most) (hl : (flatX X).length ≤ 65536) (hL : Lean9 (flatX X)) (t : Int) (ht : (Lit.int .i64 t).wf = true) :
    Calls Tryz.prog 46 #[.pointer (some ⟨r, 0, none⟩), .int .i64 t] w (OfRes w (ofP (flatX X) t)) := by
  have hR : RBlk w r mb most _ := h.blk
  have CA := Lib.hid (wpAll hR hm1)
  have qT := h.top.lookTop ht
  obtain ⟨a⟩ := at9 h.once (fun e he => h.onceT he) t ⟨#[]⟩
  have hcase : (∀ e ∈ X, e.1 ≠ t) ∨ ∃ b T Y, X.Perm ((t, b, T) :: Y) ∧ ∀ e ∈ Y, e.1 ≠ t := by
    rcases a with hY | ⟨b, T, Y, hX, hY, hS⟩ | ⟨b, v0, ls0, S, T, Y, hX, hY, hT, hS⟩
    · exact .inl hY
    · exact .inr ⟨b, T, Y, hX, hY⟩
    · exact .inr ⟨b, T, Y, hX, hY⟩
  rcases hcase with hY | ⟨b, T, Y, hX, hY⟩
  · rw [getM_topN hY] at qT
    simp only [Option.getD_none] at qT
    have HD := Lib.hid (show ofP (flatX X) t = [] by unfold ofP; rw [his_none hY]; rfl)
    have hrg := run_range_nilMap (P := Tryz.prog) w 160 9 162 Tryz.underlying160
    have hnx : ∀ ty, (Instr.next (.pointer (some ⟨w.heap.size, 0, none⟩)) false ty).run Tryz.prog (w.alloc (.mapIter none 0 #[] 0)) = _ := fun ty => run_next_nilMap w ty 0 0 #[]
    have CS := Lib.hid (fun W => wsortR (base := w.heap.size) (ls := []) (SO.nil seR w.heap.size W) (by simp) List.nodup_nil)
    clear h hR a hY
    go_enter Tryz.func46, Tryz.ntmps46
    go_wp2_with (go_at_call 88; go_loud (refine CA.out.mono ?_; rintro e w1 ⟨rfl, hw⟩; replace hw := hw.symm; subst hw))
    refine wp_loop_rounds 1 ?_
    rw [rounds_succ]
    go_wp2_with (go_at_call 90; go_loud (refine (CS.out _).mono ?_; rintro e w5 ⟨rfl, -, g5⟩; have G5 := Lib.hid g5; clear g5))
    go_ret
    exact ⟨_, rfl, by rw [HD.out]; exact SO.nil _ _ _, (below_alloc9 w _).trans G5.out⟩
  · have hmem := List.mem_cons_self (a := (t, b, T)) (l := Y)
    have hmX := hX.mem_iff.2 hmem
    rw [getM_top h.top.once hmX] at qT
    simp only [Option.getD_some] at qT
    have hhis := his_tx hX hY
    have HTab := Lib.hid (h.tab _ hmX)
    have HTn := Lib.hid (h.onceT hmX)
    have HTl := Lib.hid (fun q hq => h.lst _ hmX q hq id : ∀ q ∈ T, NL w q.2.1 q.2.2)
    have HNd := Lib.hid (show (rdsT T).Nodup from hhis.nodup_iff.1 (hL.nodup t))
    have HLen := Lib.hid (show (rdsT T).length ≤ 65536 by
      rw [← hhis.length_eq]
      unfold hisR
      rw [List.length_map]
      exact Nat.le_trans (List.length_filter_le _ _) hl)
    have HOf := Lib.hid (fun (ms : List Rd) (hp : ms.Pairwise (aheadP · · = true)) (hm : ∀ y, y ∈ ms ↔ y ∈ rdsT T) => of_unique hL (t := t) hp fun y => (hm y).trans (hhis.mem_iff.symm.trans mem_his))
    clear h hR a hX hY hmem hmX hhis hL hl
    go_enter Tryz.func46, Tryz.ntmps46
    go_upto_region 3 with (first
      | (go_at_call 88; go_loud (refine CA.out.mono ?_; rintro e w1 ⟨rfl, hw⟩; replace hw := hw.symm; subst hw))
      | (at_range; go_loud (refine wp_rangeM KS (by rfl) (.tmp 13) (by rfl) (by rfl) HTab.out Tryz.underlying160 ?_; intro w2 g2 b2 s2; have G2 := Lib.hid g2; have B2 := Lib.hid b2; clear g2 b2 s2)))
    have START := Lib.hid (show OfI w w2 b w.heap.size T [] T (.slice none 0 0) (tabT T) from ⟨SO.nil _ _ _, OfC.start T, G2.out, grown_none B2.out (Nat.le_refl _)⟩)
    clear qT
    try go_frame
    go_loopw [5] (fun lv wz => ∃ (V U : List Tb9) (left : List (ByteArray × Value)), OfI w wz b w.heap.size T V U lv left) (fun _ wz => wz.rangeLeft b w.heap.size)
    case atStart => exact ⟨[], T, tabT T, START.out⟩
    case round =>
      rename World => wz
      obtain ⟨V, U, left, o⟩ := hrel
      have I := Lib.hid o
      have ZL := Lib.hid (show (rdsT V).length ≤ 65536 by have h1 := o.col.len; have h2 := HLen.out; omega)
      clear o
      go_upto_region 4 with (at_next; go_loud (refine wp_nextS (by rfl) (.tmp 14) (by rfl) w.heap.size left (by rfl) I.out.rng ?_ ?_))
      · intro hnil
        subst hnil
        have hU : U = [] := List.eq_nil_iff_forall_not_mem.2 fun q hq => by have := I.out.col.l1 q hq; simp at this
        have hTV : T.Perm V := by have := I.out.col.perm; rw [hU, List.append_nil] at this; exact this
        have hpV : (rdsT T).Perm (rdsT V) := hTV.flatMap_right _
        have HPV := Lib.hid hpV
        have CS := Lib.hid (wsortR I.out.so (by have := ZL.out; omega) (hpV.nodup_iff.1 HNd.out))
        clear hU hTV hpV
        go_wp2_with (go_at_call 90; go_loud (refine CS.out.mono ?_; rintro e w5 ⟨rfl, ms, g5⟩; have G5 := Lib.hid g5; have MS := Lib.hid ms; clear g5 ms))
        go_ret
        obtain ⟨ms, m1, m2, m3, m4⟩ := MS.out
        have hof := HOf.out ms m3 fun y => (m2 y).trans HPV.out.mem_iff.symm
        refine ⟨_, rfl, ?_, I.out.bel.trans (G5.out.mono (Nat.le_succ _))⟩
        rw [← hof, m1]
        exact m4.lower (Nat.le_succ _)
      · intro tb u wn hin hok hr2 hg2 hsz hlt hen
        obtain ⟨q, hq, e2, U', hc'⟩ := I.out.col.next HTn.out hin
        simp only [Prod.mk.injEq] at e2
        obtain ⟨rfl, rfl⟩ := e2
        have hitl := RangeM.it_lt hr2
        have hbn : Below w.heap.size w wn := I.out.bel.trans (grown_below hg2 I.out.bel.size (Nat.le_refl _))
        have hNL := (HTl.out q hq).gw hbn
        have SO0 := Lib.hid (I.out.so.stays fun k hk hk2 => hg2.block k hk2 (fun e => by have := Option.some.inj e; omega))
        have HNL := Lib.hid (HTl.out q hq)
        obtain ⟨A, c, hv, a1, a2, -⟩ := hNL.form
        have HA := Lib.hid (fun (W' : World) (hW : Below w.heap.size w W') (k : Nat) (z : Nat × Rd) (hz : q.2.2[k]? = some z) => by
          obtain ⟨A', c', e, -, -, h3⟩ := (HNL.out.gw hW).form
          have e2 := hv.symm.trans e
          simp only [Value.slice.injEq, true_and] at e2
          rw [e2.1]
          exact h3 k z hz : ∀ (W' : World), Below w.heap.size w W' → ∀ (k : Nat) (z : Nat × Rd), q.2.2[k]? = some z → ∃ g, A = some ⟨g, 0, none⟩ ∧ W'.cell? ⟨g, k, none⟩ = some (ptV z.1) ∧ RdAt W' z.1 z.2)
        have HC := Lib.hid (And.intro hc' (And.intro hr2 (And.intro hlt (And.intro hitl (And.intro hbn HTab.out.lt)))))
        have ZQ := Lib.hid (show (rdsT V).length + q.2.2.length ≤ 65536 by
          have h1 := hc'.len
          rw [rdsT_app, List.length_append, List.length_map] at h1
          have h2 := HLen.out
          omega)
        rw [hv] at hen ⊢
        obtain ⟨n, hn⟩ : ∃ n, q.2.2.length = n := ⟨_, rfl⟩
        have HN := Lib.hid hn
        rw [hn] at hen ⊢
        clear hin hok hr2 hg2 hsz hlt hq hc' hitl hNL hv a1 a2
        go_upto_region 6 with fail
        go_loopw [5, 21] (fun lv iv wy => ∃ k : Nat, iv = .int .i64 (k : Nat) ∧ k ≤ n ∧ SO seR (w.heap.size + 1) wy lv (rdsT V ++ (q.2.2.map (·.2)).take k).length (cellsR (rdsT V ++ (q.2.2.map (·.2)).take k)) ∧ Below (w.heap.size + 1) wn wy) (fun _ iv _ => n - (intOf iv).toNat)
        case atStart => exact ⟨0, rfl, Nat.zero_le _, by rw [List.take_zero, List.append_nil]; exact SO0.out, Below.refl _ _⟩
        case round =>
          rename World => wy
          obtain ⟨k, rfl, hk, so, hby⟩ := hrel
          have SOY := Lib.hid so
          have HBY := Lib.hid hby
          clear so
          by_cases hkn : k < n
          · obtain ⟨z, hz⟩ : ∃ z, q.2.2[k]? = some z := ⟨_, List.getElem?_eq_getElem (by rw [HN.out]; exact hkn)⟩
            obtain ⟨g, rfl, c1, hr⟩ := HA.out wy (HC.out.2.2.2.2.1.trans (hby.mono (Nat.le_succ _))) k z hz
            obtain ⟨y0, y1, y2, y3⟩ := hr.cells
            unfold ptV at c1
            have htk : rdsT V ++ (q.2.2.map (·.2)).take (k + 1) = (rdsT V ++ (q.2.2.map (·.2)).take k) ++ [z.2] := by
              rw [List.append_assoc]
              congr 1
              rw [List.take_add_one, List.getElem?_map, hz]
              rfl
            have HTK := Lib.hid htk
            have i1 : (k : Int) < (n : Int) := by omega
            have hk6 : k ≤ 65536 := by have := ZQ.out; have := HN.out; omega
            obtain ⟨W2, hW2⟩ : ∃ W2, wy.alloc (.cells #[.string z.2.tb, .int .i64 z.2.kd, .string z.2.lo, .string z.2.hi] 114) = W2 := ⟨_, rfl⟩
            have HW2 := Lib.hid hW2
            have bW2 : Below wy.heap.size wy W2 := by rw [← hW2]; exact below_alloc9 _ _
            have hx : RdAt W2 wy.heap.size z.2 := by rw [← hW2]; exact rd_box wy z.2
            have hSB : SB W2 (some ⟨wy.heap.size, 0, none⟩) (seR.s * 1) (cellsR [z.2]) := ⟨rfl, cellsR_one _, fun _ => ⟨_, 0, rfl, fun j u hj => by
              have hc := hx.cells
              match j, hj with
              | 0, hj => cases hj; exact hc.1
              | 1, hj => cases hj; exact hc.2.1
              | 2, hj => cases hj; exact hc.2.2.1
              | 3, hj => cases hj; exact hc.2.2.2⟩⟩
            have SB2 := Lib.hid hSB
            have SO2 := Lib.hid (SOY.out.below bW2)
            have hsz : w.heap.size + 1 ≤ wy.heap.size := Nat.le_trans HC.out.2.2.2.1 hby.size
            have HB2 := Lib.hid (hby.trans (bW2.mono hsz))
            have HS2 := Lib.hid (show w.heap.size + 1 ≤ W2.heap.size by have := bW2.size; omega)
            have HKN := Lib.hid hkn
            have HLZ := Lib.hid (show (rdsT V ++ (q.2.2.map (·.2)).take k).length + 1 ≤ 10000000 by
              have := ZQ.out
              simp only [List.length_append, List.length_take, List.length_map]
              omega)
            generalize rdsT V ++ (q.2.2.map (·.2)).take k = acc at SO2 HLZ HTK
            clear hz hr htk hW2 bW2 hx hSB hsz hkn hk hby SOY
            go_upto_region 8 with fail
            go_wp2_with (at_builtin; go_loud (rw [HW2.out]; refine so_append seR_ok (by rfl) (.tmp 25) (.tmp 29) (by rfl) _ (by rfl) SO2.out (some ⟨wy.heap.size, 0, none⟩) 1 1 (cellsR [z.2]) (by rfl) SB2.out HLZ.out HS2.out ?_; intro v4 w4 o4 b4; have O4 := Lib.hid o4; have B4 := Lib.hid (HB2.out.trans b4); clear o4 b4))
            go_roundw
            case rel => exact ⟨k + 1, by go_num, HKN.out, by rw [HTK.out, List.length_append, cellsR_app]; exact O4.out, B4.out⟩
            case measure => have := HKN.out; simp [intOf]; omega
          · have hke : k = n := by omega
            have i1 : ¬ (k : Int) < (n : Int) := by omega
            have hall : rdsT V ++ (q.2.2.map (·.2)).take k = rdsT (V ++ [q]) := by
              rw [rdsT_app, List.take_of_length_le (by rw [List.length_map, HN.out, hke]; exact Nat.le_refl _)]
            have SOE := SOY.out
            rw [hall] at SOE
            have HSE := Lib.hid SOE
            clear hk hby SOE hall hke hkn
            go_wp2
            go_roundw
            case rel => exact ⟨V ++ [q], U', delM left q.1, HSE.out, HC.out.1, HC.out.2.1.kept (HBY.out.block b (by have := HC.out.2.2.2.2.2; omega)) (HBY.out.block _ (Nat.lt_succ_self _)), HC.out.2.2.2.2.1.trans (HBY.out.mono (Nat.le_succ _))⟩
            case measure =>
              rw [left_kept (HBY.out.block b (by have := HC.out.2.2.2.2.2; omega)) (HBY.out.block _ (Nat.lt_succ_self _))]
              exact HC.out.2.2.1
end Go.Proofs.YtknppiebncdjmaaGreat

namespace Go.Proofs.YtknppiebncdjmaaGreat
set_option maxRecDepth 100000
open Go.RowKit

def M9 (w : World) (G : Nat → Prop) (r most : Nat) (L : List Nt) : Prop := ∃ mb X, Mem9 NoE w r mb most (flatX X).length X ∧ (flatX X).Perm L ∧ Inv9 most L ∧ SzL L ∧ 1 ≤ most ∧ most ≤ 65536 ∧ (∀ k, BlX r mb X k → G k) ∧ ∀ k, G k → k < w.heap.size
theorem mem_new {w : World} {r mb m : Nat} (hR : RBlk w r mb m 0) (hM : MapM KI w mb []) : Mem9 NoE w r mb m (flatX []).length [] :=
  ⟨hR, hM, by simp, by simp, by simp, by simp, by simp, by simp [rowsX]⟩
theorem size_le {s : ByteArray} (h : s.size ≤ 140737488351232) : s.size ≤ maxLen := by simp only [maxLen]; omega
theorem noteIs_m9 {w w' : World} {G : Nat → Prop} {r mb most : Nat} {X X' : List Tx9} {M N : List Nt} (hG : ∀ k, BlX r mb X k → G k) (hlt : ∀ k, G k → k < w.heap.size) (i : NoteIs w w' r mb most X M X') (hp : M.Perm N) (hi : Inv9 most N) (hs : SzL N) (h1 : 1 ≤ most) (h2 : most ≤ 65536) :
    ∃ G', M9 w' G' r most N ∧ (∀ k, G' k → G k ∨ w.heap.size ≤ k) ∧ Out G w w' := by
  refine ⟨fun k => G k ∨ BlX r mb X' k, ⟨mb, X', i.mem, i.flat.trans hp, hi, hs, h1, h2, fun k hk => .inr hk, fun k hk => ?_⟩, fun k hk => ?_, i.out.mono fun k _ hk => hG k hk⟩
  · rcases hk with hk | hk
    · exact Nat.lt_of_lt_of_le (hlt k hk) i.out.size
    · exact i.mem.lt k hk
  · rcases hk with hk | hk
    · exact .inl hk
    · exact (i.bl k hk).imp (hG k) id
theorem m9_len {w : World} {G : Nat → Prop} {r most : Nat} {L : List Nt} {X : List Tx9} (hp : (flatX X).Perm L) (hi : Inv9 most L) (h2 : most ≤ 65536) : (flatX X).length ≤ most ∧ (flatX X).length ≤ 65536 := by
  have := hi.cap
  rw [hp.length_eq]
  exact ⟨this, by omega⟩
theorem api9 : Api9 M9 where
  stays := by
    rintro w w' G r most L ⟨mb, X, h, hp, hi, hs, h1, h2, hG, hlt⟩ o
    exact ⟨mb, X, h.kept fun k hk => o.block k (hlt k (hG k hk)) (fun hn => hn (hG k hk)), hp, hi, hs, h1, h2, hG, fun k hk => Nat.lt_of_lt_of_le (hlt k hk) o.size⟩
  lt := by
    rintro w G r most L ⟨mb, X, h, hp, hi, hs, h1, h2, hG, hlt⟩
    exact hlt
  inv := by
    rintro w G r most L ⟨mb, X, h, hp, hi, hs, h1, h2, hG, hlt⟩
    exact ⟨hi, hs, h1, h2⟩
  new := by
    intro w m h1 h2
    refine (wpNew w m h1 h2).mono ?_
    rintro e w' ⟨rfl, hR, hM, hb⟩
    refine ⟨w.heap.size + 1, fun k => k = w.heap.size + 1 ∨ k = w.heap.size, rfl, ⟨w.heap.size, [], mem_new hR hM, List.Perm.refl _, Inv9.nil m, (fun n hn => by cases hn), h1, h2, fun k hk => ?_, fun k hk => ?_⟩, fun k hk => ?_, hb⟩
    · rcases hk with rfl | rfl | ⟨e, he, -⟩
      · exact .inl rfl
      · exact .inr rfl
      · cases he
    · rcases hk with rfl | rfl
      · exact hR.lt
      · exact hM.lt
    · omega
  bad := by
    intro w m hm
    refine (wpNew_no w m ?_).mono ?_
    · unfold capP at hm
      simp only [Bool.and_eq_false_iff, decide_eq_false_iff_not] at hm
      omega
    · rintro e w' ⟨rfl, rfl⟩
      exact ⟨rfl, Below.refl _ _⟩
  note := by
    rintro w G r most L ⟨mb, X, h, hp, hi, hs, h1, h2, hG, hlt⟩ t x ht hx
    have hl := m9_len (w := w) (G := G) (r := r) hp hi h2
    refine (wpNote9 h h1 h2 hl.1 t ht x (by have := hx.lo; omega) (size_le hx.tb)).mono ?_
    rintro e w' ⟨rfl, X', i⟩
    obtain ⟨n1, n2⟩ := note_perm (most := most) hp t x
    exact ⟨by rw [n1], noteIs_m9 hG hlt i n2 (note_keeps hi t x).1 (note_sz hs t (by have := hx.lo; omega)) h1 h2⟩
  drop := by
    rintro w G r most L ⟨mb, X, h, hp, hi, hs, h1, h2, hG, hlt⟩ t ht
    have hl := m9_len (w := w) (G := G) (r := r) hp hi h2
    refine (wpDrop9 h h1 hl.2 t ht).mono ?_
    rintro e w' ⟨rfl, X', i⟩
    refine ⟨rfl, noteIs_m9 hG hlt i ?_ ?_ ?_ h1 h2⟩
    · by_cases h3 : t < 1
      · rw [if_pos h3, if_pos h3]; exact hp
      · rw [if_neg h3, if_neg h3]; exact drop_perm hp t
    · by_cases h3 : t < 1
      · rw [if_pos h3]; exact hi
      · rw [if_neg h3]; exact drop_keeps hi t
    · by_cases h3 : t < 1
      · rw [if_pos h3]; exact hs
      · rw [if_neg h3]; exact fun n hn => hs n (List.mem_filter.1 hn).1
  readers := by
    rintro w G r most L ⟨mb, X, h, hp, hi, hs, h1, h2, hG, hlt⟩ t k ht hk
    have hl := m9_len (w := w) (G := G) (r := r) hp hi h2
    refine (wpReaders9 h h1 hl.2 t k (size_le ht) (by omega)).mono ?_
    rintro e w' ⟨v, rfl, o, b⟩
    rw [tx_perm hp] at o
    exact ⟨v, rfl, o, b⟩
  txns := by
    rintro w G r most L ⟨mb, X, h, hp, hi, hs, h1, h2, hG, hlt⟩
    have hl := m9_len (w := w) (G := G) (r := r) hp hi h2
    refine (wpTxns9 h h1 hl.2).mono ?_
    rintro e w' ⟨v, rfl, o, b⟩
    rw [tx_perm hp] at o
    exact ⟨v, rfl, o, b⟩
  of := by
    rintro w G r most L ⟨mb, X, h, hp, hi, hs, h1, h2, hG, hlt⟩ t ht
    have hl := m9_len (w := w) (G := G) (r := r) hp hi h2
    refine (wpOf9 h h1 hl.2 (hi.ln.perm hp.symm) t ht).mono ?_
    rintro e w' ⟨v, rfl, o, b⟩
    rw [of_perm (hi.ln.perm hp.symm) hp] at o
    exact ⟨v, rfl, o, b⟩
  len := by
    rintro w G r most L ⟨mb, X, h, hp, hi, hs, h1, h2, hG, hlt⟩
    refine (wpLen (show RBlk w r mb most _ from h.blk) h1).mono ?_
    rintro e w' ⟨rfl, rfl⟩
    rw [hp.length_eq]
    exact ⟨rfl, Below.refl _ _⟩
  covers := fun w a b ha hb => wpCovers w a b (by omega) (by omega)
end Go.Proofs.YtknppiebncdjmaaGreat
