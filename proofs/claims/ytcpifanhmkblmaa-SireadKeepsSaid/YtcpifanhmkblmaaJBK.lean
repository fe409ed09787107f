import Derived.Test.YtcpifanhmkblmaaJBJ
import Derived.Test.YtcpifanhmkblmaaProg
import Derived.Shelf.SlGeneric
import Derived.Shelf.SlSortCmp.WholeK
import Derived.Shelf.SlSortCmp.NoneTotal
import Derived.Ground.SlsfProg
import Derived.Test.YtcpifanhmkblmaaJBD
import Derived.Test.YtcpifanhmkblmaaSiRef8
/- Layer 9: Readers. -/
namespace Go.Proofs.Ytcpifanhmkblmaa
set_option maxRecDepth 100000
set_option maxRecDepth 100000
open Go.RowKit

set_option maxHeartbeats 8000000 in
theorem wpReaders9 {w : World} {r mb most : Nat} {X : List Tx9} (h : Mem9 NoE w r mb most (flatX X).length X) (hm1 : 1 ≤ most) (hl : (flatX X).length ≤ 65536) (tb key : ByteArray) (htb : tb.size ≤ maxLen) (hk : key.size ≤ 140737488355328) :
    Calls Try.prog 21 #[.pointer (some ⟨r, 0, none⟩), .string tb, .string key] w (ListRes w (txP (flatX X) fun n => hasP n.2 tb key)) := by
  obtain ⟨W, hW⟩ : ∃ V, w.alloc (.cells #[.string tb, .int .i64 1, .string key, .string ⟨#[]⟩] 31) = V := ⟨_, rfl⟩
  have HW := Lib.hid hW
  have bW : Below w.heap.size w W := by rw [← hW]; exact below_alloc9 _ _
  have hx : RdAt W w.heap.size (keyR tb key) := by rw [← hW]; exact rd_box w (keyR tb key)
  have hWs : W.heap.size = w.heap.size + 1 := by rw [← hW]; simp
  obtain ⟨it, hit⟩ : ∃ it, W.heap.size = it := ⟨_, rfl⟩
  have hMW0 := h.gw bW
  have hR : RBlk W r mb most _ := hMW0.blk
  have CA := Lib.hid (wpAll hR hm1)
  have hM := Lib.hid h
  have hMW := Lib.hid hMW0
  have HB := Lib.hid bW
  have HXB := Lib.hid hx
  have HI := Lib.hid (And.intro hit hWs)
  have HLX := Lib.hid (len_tx (X := X) fun e he => ⟨(h.ne e he).1, fun q hq => (h.ok e he q hq).ne⟩)
  have HL := Lib.hid hl
  have HT := Lib.hid (And.intro htb hk)
  have HF := Lib.hid (fun (zs : List Int) (hc : ColJ X (readsJ tb key) zs []) => hc.ends (g := fun n => hasP n.2 tb key) (reads_is h tb key))
  clear h hR hl hW bW hx hWs hit hMW0 htb hk
  go_enter Try.func21, Try.ntmps21
  go_upto_region 2 with fail
  rw [HW.out]
  go_upto_region 4 with (first
    | (go_at_call 48; go_loud (refine CA.out.mono ?_; rintro e w1 ⟨rfl, hw⟩; replace hw := hw.symm; subst hw))
    | (at_range; go_loud (refine wp_rangeM KI (by rfl) (.tmp 15) (by rfl) (by rfl) hMW.out.top Try.underlying55 ?_; intro w2 g2 b2 s2; have G2 := Lib.hid g2; have B2 := Lib.hid b2; clear g2 b2 s2)))
  rw [HI.out.1]
  have G2b := Lib.hid (show RangeM KI w2 mb it (topX X) (topX X) by have := G2.out; rw [HI.out.1] at this; exact this)
  have BG := Lib.hid (grown_none B2.out (Nat.le_refl _))
  have START := Lib.hid (show TellI w w2 mb it X (readsJ tb key) (.slice none 0 0) [] (topX X) from ⟨SO.nil _ _ _, ColJ.start _ _, G2b.out, below_next HB.out BG.out⟩)
  have SX := Lib.hid (HXB.out.block (BG.out.block _ HXB.out.lt))
  try go_frame
  go_loopw [8] (fun lv wz => ∃ (zs : List Int) (left : List (Int × Value)), TellI w wz mb it X (readsJ tb key) lv zs left ∧ RdAt wz w.heap.size (keyR tb key)) (fun _ wz => wz.rangeLeft mb it)
  case atStart => exact ⟨[], topX X, START.out, SX.out⟩
  case round =>
    rename World => wz
    obtain ⟨zs, left, o, ox⟩ := hrel
    have I := Lib.hid o
    have HOX := Lib.hid ox
    have ZL := Lib.hid (show zs.length ≤ 65536 by have h1 := o.col.len; have h2 := HLX.out; have h3 := HL.out; omega)
    clear o ox
    go_upto_region 5 with (at_next; go_loud (refine wp_nextI (by rfl) (.tmp 16) (by rfl) it left (by rfl) I.out.rng ?_ ?_))
    · intro hnil
      subst hnil
      have CS := Lib.hid (wsortN I.out.so (by have := ZL.out; omega))
      have SR := Lib.hid (HF.out _ I.out.col)
      go_wp2_with (go_at_call 49; go_loud (refine CS.out.mono ?_; rintro e w5 ⟨rfl, o5, g5⟩; have O5 := Lib.hid o5; have B5 := Lib.hid (I.out.bel.trans (g5.mono (by have := HI.out; omega))); clear o5 g5))
      go_ret
      refine ⟨_, rfl, ?_, B5.out⟩
      rw [← SR.out, List.length_mergeSort]
      exact O5.out.lower (by have := HI.out; omega)
    · intro t v wn hin hok hr2 hg2 hsz hlt hen
      obtain ⟨e, he, e1⟩ := List.mem_map.1 (I.out.rng.sub _ hin)
      simp only [Prod.mk.injEq] at e1
      obtain ⟨rfl, rfl⟩ := e1
      have hitl := RangeM.it_lt hr2
      have hwi : w.heap.size < it ∧ mb < w.heap.size := ⟨by have := HI.out; omega, hM.out.top.lt⟩
      have hxn : RdAt wn w.heap.size (keyR tb key) := HOX.out.block (hg2.block _ HOX.out.lt (fun e => by have := Option.some.inj e; omega))
      have hbn : Below w.heap.size w wn := I.out.bel.trans (grown_below hg2 I.out.bel.size (by omega))
      obtain ⟨sv, ls, q1, q2, q3, q4, q5, q6⟩ := tab_look hM.out HL.out hbn he tb key HT.out.1
      have CC := Lib.hid (wpCover q2 q3 q4 q5 (keyR tb key) HT.out.2)
      rw [q6] at CC
      obtain ⟨x0, x1, x2, x3⟩ := hxn.cells
      unfold keyR at x0 x1 x2 x3
      unfold rdV keyR at CC
      have SO0 := Lib.hid (I.out.so.stays fun k hk hk2 => hg2.block k hk2 (fun e => by have := Option.some.inj e; omega))
      have HXN := Lib.hid hxn
      have HEE := Lib.hid (And.intro he hin)
      have HR2 := Lib.hid (And.intro hr2 (And.intro hg2 (And.intro hlt (And.intro hitl hwi))))
      cases hf : readsJ tb key e
      · rw [hf] at CC
        have hcs := I.out.col.skip hM.out.once I.out.rng.once he hin hf
        have HCS := Lib.hid hcs
        clear hin hok hr2 hg2 hsz hlt hitl hxn hbn q2 q3 q4 q5 q6 hf hcs he hwi
        go_wp2_with (go_at_call 34; go_loud (refine CC.out.mono ?_; rintro ee w3 ⟨rfl, g3⟩; have G3 := Lib.hid g3; clear g3))
        have hbi : Below (it + 1) wn w3 := G3.out.mono HR2.out.2.2.2.1
        go_roundw
        case rel => exact ⟨zs, delM left e.1, I.out.next HR2.out.2.1 HR2.out.1 HCS.out (SO0.out.below G3.out) hbi (by have := HR2.out.2.2.2.2; omega) HR2.out.2.2.2.2.2, HXN.out.block (G3.out.block _ HXN.out.lt)⟩
        case measure =>
          rw [left_kept (hbi.block mb (by have := HR2.out.2.2.2.2; omega)) (hbi.block it (by omega))]
          exact HR2.out.2.2.1
      · rw [hf] at CC
        have hct := I.out.col.take hM.out.once I.out.rng.once he hin hf
        have HCT := Lib.hid hct
        clear hin hok hr2 hg2 hsz hlt hitl hxn hbn q2 q3 q4 q5 q6 hf hct he hwi
        go_upto_region 7 with (go_at_call 34; go_loud (refine CC.out.mono ?_; rintro ee w3 ⟨rfl, g3⟩; have G3 := Lib.hid g3; clear g3))
        have hbi : Below (it + 1) wn w3 := G3.out.mono HR2.out.2.2.2.1
        obtain ⟨V, hV⟩ : ∃ V, w3.alloc (.cells #[.int .i64 e.1] 2) = V := ⟨_, rfl⟩
        have HV := Lib.hid hV
        have bV : Below w3.heap.size w3 V := by rw [← hV]; exact below_alloc9 _ _
        have hc0 : V.cell? ⟨w3.heap.size, 0, none⟩ = some (.int .i64 e.1) := by rw [← hV]; exact cell_of_row _ _ 0 _ _ _ (heap_alloc_new _ _)
        have hSB : SB V (some ⟨w3.heap.size, 0, none⟩) (seN.s * 1) (numC [e.1]) := ⟨rfl, numC_one _, fun _ => ⟨_, 0, rfl, fun j u hj => by
          match j, hj with
          | 0, hj => cases hj; exact hc0⟩⟩
        have SBV := Lib.hid hSB
        have SOV := Lib.hid ((SO0.out.below G3.out).below bV)
        have hs3 : it + 1 ≤ w3.heap.size := Nat.le_trans HR2.out.2.2.2.1 G3.out.size
        have hbV := hbi.trans (bV.mono hs3)
        have HBV := Lib.hid hbV
        have NX := Lib.hid (fun (lv' : Value) (wV : World) (hso : SO seN (it + 1) wV lv' (zs.length + 1) (numC zs ++ numC [e.1])) (hb : Below (it + 1) V wV) => I.out.next HR2.out.2.1 HR2.out.1 HCT.out (by rw [List.length_append]; rw [show numC (zs ++ [e.1]) = numC zs ++ numC [e.1] by simp [numC]]; exact hso) (HBV.out.trans hb) (by have := HR2.out.2.2.2.2; omega) HR2.out.2.2.2.2.2)
        have ML := Lib.hid (fun (wV : World) (hb : Below (it + 1) V wV) => show wV.rangeLeft mb it < wz.rangeLeft mb it by
          have hb2 := HBV.out.trans hb
          rw [left_kept (hb2.block mb (by have := HR2.out.2.2.2.2; omega)) (hb2.block it (by omega))]; exact HR2.out.2.2.1)
        have XL := Lib.hid (fun (wV : World) (hb : Below (it + 1) V wV) => show RdAt wV w.heap.size (keyR tb key) from HXN.out.block ((HBV.out.trans hb).block _ (by have := HR2.out.2.2.2.2; omega)))
        have HVs := Lib.hid (show it + 1 ≤ V.heap.size by have := bV.size; omega)
        clear hbi hV bV hc0 hSB hs3 hbV x0 x1 x2 x3
        go_wp2_with (at_builtin; go_loud (rw [HV.out]; refine so_append seN_ok (by rfl) (.tmp 27) (.tmp 29) (by rfl) _ (by rfl) SOV.out (some ⟨w3.heap.size, 0, none⟩) 1 1 (numC [e.1]) (by rfl) SBV.out (by have := ZL.out; omega) HVs.out ?_; intro v4 w4 o4 b4; have N4 := Lib.hid (NX.out v4 w4 o4 b4); have L4 := Lib.hid (ML.out w4 b4); have X4 := Lib.hid (XL.out w4 b4); clear o4 b4))
        go_roundw
        case rel => exact ⟨_, _, N4.out, X4.out⟩
        case measure => exact L4.out
end Go.Proofs.Ytcpifanhmkblmaa

/- Layer 9: slices.SortFunc of notes at this seat, in plain words (made by program: wip/law/XSpShelfRLay.lean.tpl). -/
namespace Go.Proofs
set_option maxRecDepth 100000
open Go.Shelf
def Try.sortR_ren : Go.Shelf.Ren := ⟨fun | 6 => 51 | 15 => 63 | 14 => 64 | 28 => 83 | 29 => 84 | 20 => 85 | 21 => 86 | 22 => 87 | 23 => 88 | 24 => 89 | 25 => 90 | 26 => 91 | 27 => 92 | 46 => 101 | 47 => 97 | 48 => 98 | 49 => 102 | 50 => 103 | 57 => 106 | n => n, fun | 22 => 52 | 24 => 31 | 25 => 91 | 3 => 3 | 39 => 99 | 0 => 0 | 53 => 119 | 55 => 121 | 4 => 4 | 46 => 111 | 45 => 110 | 50 => 116 | 5 => 5 | 9 => 9 | 66 => 129 | 70 => 133 | 76 => 138 | 77 => 139 | n => n, fun | n => n⟩
theorem Try.sortR : Go.Proofs.SlLaysF0.n6 Try.prog Try.sortR_ren := {
  mixed := by kernel_rfl
  f6 := ⟨Try.f51.name, by decide, Try.func51.trans (congrArg some (by kernel_rfl))⟩
  f14 := ⟨Try.f64.name, by decide, Try.func64.trans (congrArg some (by kernel_rfl))⟩
  f15 := Try.func63.trans (congrArg some (by kernel_rfl))
  f20 := ⟨Try.f85.name, by decide, Try.func85.trans (congrArg some (by kernel_rfl))⟩
  f21 := ⟨Try.f86.name, by decide, Try.func86.trans (congrArg some (by kernel_rfl))⟩
  f22 := ⟨Try.f87.name, by decide, Try.func87.trans (congrArg some (by kernel_rfl))⟩
  f23 := ⟨Try.f88.name, by decide, Try.func88.trans (congrArg some (by kernel_rfl))⟩
  f24 := ⟨Try.f89.name, by decide, Try.func89.trans (congrArg some (by kernel_rfl))⟩
  f25 := ⟨Try.f90.name, by decide, Try.func90.trans (congrArg some (by kernel_rfl))⟩
  f26 := ⟨Try.f91.name, by decide, Try.func91.trans (congrArg some (by kernel_rfl))⟩
  f27 := ⟨Try.f92.name, by decide, Try.func92.trans (congrArg some (by kernel_rfl))⟩
  f28 := Try.func83.trans (congrArg some (by kernel_rfl))
  f29 := Try.func84.trans (congrArg some (by kernel_rfl))
  f46 := ⟨Try.f101.name, by decide, Try.func101.trans (congrArg some (by kernel_rfl))⟩
  f47 := Try.func97.trans (congrArg some (by kernel_rfl))
  f48 := Try.func98.trans (congrArg some (by kernel_rfl))
  f49 := ⟨Try.f102.name, by decide, Try.func102.trans (congrArg some (by kernel_rfl))⟩
  f50 := ⟨Try.f103.name, by decide, Try.func103.trans (congrArg some (by kernel_rfl))⟩
  f57 := ⟨Try.f106.name, by decide, Try.func106.trans (congrArg some (by kernel_rfl))⟩
  t0 := Try.underlying0
  a0 := Try.isAgg0
  z0 := Try.sizeOf0
  v0 := Try.zeroValue0
  t3 := Try.underlying3
  a3 := Try.isAgg3
  z3 := Try.sizeOf3
  v3 := Try.zeroValue3
  t4 := Try.underlying4
  a4 := Try.isAgg4
  z4 := Try.sizeOf4
  v4 := Try.zeroValue4
  t5 := Try.underlying5
  a5 := Try.isAgg5
  z5 := Try.sizeOf5
  v5 := Try.zeroValue5
  t9 := Try.underlying9
  a9 := Try.isAgg9
  z9 := Try.sizeOf9
  v9 := Try.zeroValue9
  t22 := Try.underlying52
  a22 := Try.isAgg52
  z22 := Try.sizeOf52
  v22 := Try.zeroValue52
  t25 := Try.underlying91
  a25 := Try.isAgg91
  z25 := Try.sizeOf91
  v25 := Try.zeroValue91
  t39 := Try.underlying99
  a39 := Try.isAgg99
  z39 := Try.sizeOf99
  v39 := Try.zeroValue99
  t45 := Try.underlying110
  a45 := Try.isAgg110
  z45 := Try.sizeOf110
  v45 := Try.zeroValue110
  t46 := Try.underlying111
  a46 := Try.isAgg111
  z46 := Try.sizeOf111
  v46 := Try.zeroValue111
  t50 := Try.underlying116
  a50 := Try.isAgg116
  z50 := Try.sizeOf116
  v50 := Try.zeroValue116
  t53 := Try.underlying119
  a53 := Try.isAgg119
  z53 := Try.sizeOf119
  v53 := Try.zeroValue119
  t55 := Try.underlying121
  a55 := Try.isAgg121
  z55 := Try.sizeOf121
  v55 := Try.zeroValue121
  t66 := Try.underlying129
  a66 := Try.isAgg129
  z66 := Try.sizeOf129
  v66 := Try.zeroValue129
  t70 := Try.underlying133
  a70 := Try.isAgg133
  z70 := Try.sizeOf133
  v70 := Try.zeroValue133
  t76 := Try.underlying138
  a76 := Try.isAgg138
  z76 := Try.sizeOf138
  v76 := Try.zeroValue138
  t77 := Try.underlying139
  a77 := Try.isAgg139
  z77 := Try.sizeOf139
  v77 := Try.zeroValue139 }
end Go.Proofs

/- Layer 9: two notes compared, as slices.SortFunc asks it. -/
namespace Go.Proofs.Ytcpifanhmkblmaa
set_option maxRecDepth 100000
set_option maxRecDepth 100000
open Go.RowKit

def cmpR (a b : Rd) : Int := orP [cmpS a.tb b.tb, cmpI a.kd b.kd, cmpS a.lo b.lo, cmpS a.hi b.hi]
theorem orP_cons (x : Int) (xs : List Int) : orP (x :: xs) = if x = 0 then orP xs else x := by
  unfold orP
  by_cases h : x = 0
  · rw [List.find?_cons_of_neg (by simpa using h), if_pos h]
  · rw [List.find?_cons_of_pos (by simpa using h), if_neg h]; rfl
theorem ltOf_cmpR (a b : Rd) : ltOf cmpR a b = aheadP a b := by
  unfold ltOf cmpR aheadP
  rw [toList_beq8, toList_beq8]
  by_cases h1 : a.tb = b.tb
  · rw [orP_cons, if_pos ((cmpS_zero _ _).2 h1), if_pos (by simpa using h1)]
    by_cases h2 : a.kd = b.kd
    · rw [orP_cons, if_pos ((cmpI_zero _ _).2 h2), if_pos (by simpa using h2)]
      by_cases h3 : a.lo = b.lo
      · rw [orP_cons, if_pos ((cmpS_zero _ _).2 h3), if_pos (by simpa using h3), orP_cons]
        by_cases h4 : a.hi = b.hi
        · rw [if_pos ((cmpS_zero _ _).2 h4), h4, klB_irrefl]; rfl
        · rw [if_neg (fun e => h4 ((cmpS_zero _ _).1 e)), cmpS_lt]
      · rw [orP_cons, if_neg (fun e => h3 ((cmpS_zero _ _).1 e)), if_neg (by simpa using h3), cmpS_lt]
    · rw [orP_cons, if_neg (fun e => h2 ((cmpI_zero _ _).1 e)), if_neg (by simpa using h2), cmpI_lt]
  · rw [orP_cons, if_neg (fun e => h1 ((cmpS_zero _ _).1 e)), if_neg (by simpa using h1), cmpS_lt]
theorem swo_cmpR : Sort.SWO (ltOf cmpR) where
  irrefl x := by rw [ltOf_cmpR]; exact ahead_irr x
  trans x y z h1 h2 := by rw [ltOf_cmpR] at *; exact ahead_tr _ _ _ h1 h2
  ntrans x y z h1 h2 := by
    rw [ltOf_cmpR] at *
    cases h3 : aheadP x z with
    | false => rfl
    | true =>
      cases h4 : aheadP y x with
      | true => rw [ahead_tr _ _ _ h4 h3] at h2; cases h2
      | false => rw [ahead_tri _ _ h1 h4] at h3; rw [h2] at h3; cases h3
def RdCells (w : World) (g : Nat) (x : Rd) : Prop := w.cell? ⟨g, 0, none⟩ = some (.string x.tb) ∧ w.cell? ⟨g, 1, none⟩ = some (.int .i64 x.kd) ∧ w.cell? ⟨g, 2, none⟩ = some (.string x.lo) ∧ w.cell? ⟨g, 3, none⟩ = some (.string x.hi)
set_option maxHeartbeats 16000000 in
theorem wpCmpR (a b : Rd) (w : World) : Calls Try.prog 52 #[rdV a, rdV b] w fun e w' => e = .returned (.int .i64 (cmpR a b)) ∧ Gs w w' := by
  obtain ⟨W1, hW1⟩ : ∃ W, w.alloc (.cells #[.string a.tb, .int .i64 a.kd, .string a.lo, .string a.hi] 31) = W := ⟨_, rfl⟩
  obtain ⟨W2, hW2⟩ : ∃ W, W1.alloc (.cells #[.string b.tb, .int .i64 b.kd, .string b.lo, .string b.hi] 31) = W := ⟨_, rfl⟩
  have g1 : Gs w W1 := by rw [← hW1]; exact (Gs.refl w).alloc _
  have GG := Lib.hid (show Gs w W2 by rw [← hW2]; exact g1.alloc _)
  have q0 : W2.heap[w.heap.size]? = some (.cells #[.string a.tb, .int .i64 a.kd, .string a.lo, .string a.hi] 31 (0, 0)) := by
    rw [← hW2, Below.heap_alloc _ _ _ (by rw [← hW1]; simp), ← hW1]; exact heap_alloc_new _ _
  have q1 : W2.heap[w.heap.size + 1]? = some (.cells #[.string b.tb, .int .i64 b.kd, .string b.lo, .string b.hi] 31 (0, 0)) := by
    rw [show w.heap.size + 1 = W1.heap.size by rw [← hW1]; simp, ← hW2]; exact heap_alloc_new _ _
  have S0 : W2.cell? ⟨w.heap.size, 0, none⟩ = some (.string a.tb) ∧ W2.cell? ⟨w.heap.size, 1, none⟩ = some (.int .i64 a.kd) ∧ W2.cell? ⟨w.heap.size, 2, none⟩ = some (.string a.lo) ∧ W2.cell? ⟨w.heap.size, 3, none⟩ = some (.string a.hi) ∧ W2.cell? ⟨w.heap.size + 1, 0, none⟩ = some (.string b.tb) ∧ W2.cell? ⟨w.heap.size + 1, 1, none⟩ = some (.int .i64 b.kd) ∧ W2.cell? ⟨w.heap.size + 1, 2, none⟩ = some (.string b.lo) ∧ W2.cell? ⟨w.heap.size + 1, 3, none⟩ = some (.string b.hi) :=
    ⟨cell_of_row _ _ 0 _ _ _ q0, cell_of_row _ _ 1 _ _ _ q0, cell_of_row _ _ 2 _ _ _ q0, cell_of_row _ _ 3 _ _ _ q0, cell_of_row _ _ 0 _ _ _ q1, cell_of_row _ _ 1 _ _ _ q1, cell_of_row _ _ 2 _ _ _ q1, cell_of_row _ _ 3 _ _ _ q1⟩
  have S1 : ∀ o, (W2.alloc o).cell? ⟨w.heap.size, 0, none⟩ = some (.string a.tb) ∧ (W2.alloc o).cell? ⟨w.heap.size, 1, none⟩ = some (.int .i64 a.kd) ∧ (W2.alloc o).cell? ⟨w.heap.size, 2, none⟩ = some (.string a.lo) ∧ (W2.alloc o).cell? ⟨w.heap.size, 3, none⟩ = some (.string a.hi) ∧ (W2.alloc o).cell? ⟨w.heap.size + 1, 0, none⟩ = some (.string b.tb) ∧ (W2.alloc o).cell? ⟨w.heap.size + 1, 1, none⟩ = some (.int .i64 b.kd) ∧ (W2.alloc o).cell? ⟨w.heap.size + 1, 2, none⟩ = some (.string b.lo) ∧ (W2.alloc o).cell? ⟨w.heap.size + 1, 3, none⟩ = some (.string b.hi) := fun o => by
    have hb : Below W2.heap.size W2 (W2.alloc o) := (Below.refl _ _).alloc (Nat.le_refl _) o
    exact ⟨keep_below S0.1 hb, keep_below S0.2.1 hb, keep_below S0.2.2.1 hb, keep_below S0.2.2.2.1 hb, keep_below S0.2.2.2.2.1 hb, keep_below S0.2.2.2.2.2.1 hb, keep_below S0.2.2.2.2.2.2.1 hb, keep_below S0.2.2.2.2.2.2.2 hb⟩
  obtain ⟨x, hx⟩ : ∃ x, cmpS a.tb b.tb = x := ⟨_, rfl⟩
  obtain ⟨y, hy⟩ : ∃ y, cmpI a.kd b.kd = y := ⟨_, rfl⟩
  obtain ⟨u, hu⟩ : ∃ u, cmpS a.lo b.lo = u := ⟨_, rfl⟩
  obtain ⟨v, hv⟩ : ∃ v, cmpS a.hi b.hi = v := ⟨_, rfl⟩
  have C1 := Lib.hid (fun W => wstrCmp a.tb b.tb W)
  have C2 := Lib.hid (fun W => wcmp_int a.kd b.kd W)
  have C3 := Lib.hid (fun W => wstrCmp a.lo b.lo W)
  have C4 := Lib.hid (fun W => wstrCmp a.hi b.hi W)
  rw [hx] at C1
  rw [hy] at C2
  rw [hu] at C3
  rw [hv] at C4
  have HW1 := Lib.hid hW1
  have HW2 := Lib.hid hW2
  have HE := Lib.hid (show cmpR a b = orP [x, y, u, v] by unfold cmpR; rw [hx, hy, hu, hv])
  rw [HE.out]
  have C5 := Lib.hid (fun (W : World) (o : Nat) (h : W.heap[o]? = some (.cells #[.int .i64 x, .int .i64 y, .int .i64 u, .int .i64 v] 3 (0, 0))) => wcmpOrL (n := 4) (xs := [x, y, u, v]) rfl (by omega) (row_at h rfl))
  generalize orP [x, y, u, v] = z at C5 ⊢
  clear hW1 hW2 g1 q0 q1 hx hy hu hv HE
  unfold rdV
  go_enter Try.func52, Try.ntmps52
  go_upto_region 1 with fail
  rw [HW1.out, HW2.out]
  go_region_held3 (fun w' => w'.cell? ⟨w.heap.size, 0, none⟩ = some (.string a.tb) ∧ w'.cell? ⟨w.heap.size, 1, none⟩ = some (.int .i64 a.kd) ∧ w'.cell? ⟨w.heap.size, 2, none⟩ = some (.string a.lo) ∧ w'.cell? ⟨w.heap.size, 3, none⟩ = some (.string a.hi) ∧ w'.cell? ⟨w.heap.size + 1, 0, none⟩ = some (.string b.tb) ∧ w'.cell? ⟨w.heap.size + 1, 1, none⟩ = some (.int .i64 b.kd) ∧ w'.cell? ⟨w.heap.size + 1, 2, none⟩ = some (.string b.lo) ∧ w'.cell? ⟨w.heap.size + 1, 3, none⟩ = some (.string b.hi))
    (first | exact S0 | exact S1 _)
    (first
      | (go_at_call 55; go_loud (refine (C2.out _).mono ?_; rintro e w1 ⟨rfl, hw⟩; replace hw := hw.symm; subst hw))
      | (go_at_call_of 54 (Value.string a.tb); go_loud (refine (C1.out _).mono ?_; rintro e w1 ⟨rfl, hw⟩; replace hw := hw.symm; subst hw))
      | (go_at_call_of 54 (Value.string a.lo); go_loud (refine (C3.out _).mono ?_; rintro e w1 ⟨rfl, hw⟩; replace hw := hw.symm; subst hw))
      | (go_at_call_of 54 (Value.string a.hi); go_loud (refine (C4.out _).mono ?_; rintro e w1 ⟨rfl, hw⟩; replace hw := hw.symm; subst hw))
      | (go_at_call 53; go_loud (refine (C5.out _ _ (by exact heap_alloc_new W2 _)).mono ?_; rintro e w3 ⟨rfl, hw⟩; replace hw := hw.symm; subst hw)))
  all_goals
    go_wp2
    go_ret
    exact ⟨rfl, by first | exact GG.out.alloc _ | exact GG.out.drew.alloc _⟩
end Go.Proofs.Ytcpifanhmkblmaa
