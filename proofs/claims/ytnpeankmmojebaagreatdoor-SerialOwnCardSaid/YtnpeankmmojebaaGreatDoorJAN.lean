import Derived.Test.YtnpeankmmojebaaGreatDoorJAM
import Derived.Test.YtnpeankmmojebaaGreatDoorJAH
import Derived.WideKeyEntry
/- Layer 11: slices.SortFunc of writes by the places of their transactions, by its contract. -/
set_option linter.unusedVariables false
namespace Go.Proofs.YtnpeankmmojebaaGreatDoor
set_option maxRecDepth 100000
set_option maxRecDepth 100000
open Go.RowKit Go.Maps Go.ChangeMaps Go.MapKept

def acV' (a : Ac) : Value := .agg (acC a).toArray
open Classical in
/-- A number as a key may be: one that is none reads as 0. -/
noncomputable def fixI (x : Int) : Int := if wfI x then x else 0
theorem fixI_wf (x : Int) : wfI (fixI x) := by
  unfold fixI
  split
  · assumption
  · exact wfI_of (by omega)
theorem fixI_of {x : Int} (h : wfI x) : fixI x = x := if_pos h
noncomputable def fixA (a : Ac) : Ac := { a with txn := fixI a.txn }
theorem fixA_of {a : Ac} (h : wfI a.txn) : fixA a = a := by unfold fixA; rw [fixI_of h]
/-- The place of a number; 0 of one that has none. -/
def posP (cs : List Int) (x : Int) : Int := if x ∈ cs then (cs.idxOf x : Nat) else 0
theorem plM_pos {cs : List Int} (hd : cs.Nodup) (x : Int) : (getM (plM cs cs.length) x).getD (.int .i64 0) = .int .i64 (posP cs x) := by
  unfold posP
  by_cases h : x ∈ cs
  · rw [if_pos h, plM_at hd cs.length (cs.idxOf x) x (List.idxOf_lt_length_of_mem h) (plcP_at h)]
    rfl
  · have := plM_has cs cs.length x
    rw [List.take_length] at this
    rw [if_neg h]
    cases hg : getM (plM cs cs.length) x with
    | none => rfl
    | some u => rw [hg] at this; simp [h] at this
set_option maxHeartbeats 16000000 in
theorem wpCmpA {w : World} {r b3 : Nat} {cs : List Int} (hd : cs.Nodup) (hM : MapM KN w r (plM cs cs.length)) (hc : w.cell? ⟨b3, 0, none⟩ = some (.map (some r))) {x y : Ac} (hx : wfI x.txn) (hy : wfI y.txn) :
    Calls Tryz.prog 70 #[acV x, acV y, .pointer (some ⟨b3, 0, none⟩)] w fun e w' => e = .returned (.int .i64 (cmpI (posP cs x.txn) (posP cs y.txn))) ∧ Gs w w' := by
  obtain ⟨W1, hW1⟩ : ∃ W, w.alloc (.cells #[.int .i64 x.txn, .bool x.wr, .string x.item, .int .i64 x.ver] 44) = W := ⟨_, rfl⟩
  obtain ⟨W2, hW2⟩ : ∃ W, W1.alloc (.cells #[.int .i64 y.txn, .bool y.wr, .string y.item, .int .i64 y.ver] 44) = W := ⟨_, rfl⟩
  have g1 : Gs w W1 := by rw [← hW1]; exact (Gs.refl w).alloc _
  have g2 : Gs w W2 := by rw [← hW2]; exact g1.alloc _
  have s1 : W1.heap.size = w.heap.size + 1 := by have := congrArg (fun W => W.heap.size) hW1; simpa using this.symm
  have q0 : W2.heap[w.heap.size]? = some (.cells #[.int .i64 x.txn, .bool x.wr, .string x.item, .int .i64 x.ver] 44 (0, 0)) := by
    rw [← hW2, Below.heap_alloc _ _ _ (by omega), ← hW1]; exact heap_alloc_new _ _
  have q1 : W2.heap[w.heap.size + 1]? = some (.cells #[.int .i64 y.txn, .bool y.wr, .string y.item, .int .i64 y.ver] 44 (0, 0)) := by
    rw [← s1, ← hW2]; exact heap_alloc_new _ _
  have c0 : W2.cell? ⟨w.heap.size, 0, none⟩ = some (.int .i64 x.txn) := cell_of_row _ _ 0 _ _ _ q0
  have c1 : W2.cell? ⟨w.heap.size + 1, 0, none⟩ = some (.int .i64 y.txn) := cell_of_row _ _ 0 _ _ _ q1
  have c2 := keep_below hc g2.below
  have m2 : MapM KN W2 r (plM cs cs.length) := hM.block (g2.below.block _ hM.lt)
  have k1 : (Instr.lookup mapII (.map (some r)) (.int .i64 x.txn) false).run Tryz.prog W2 = .ok (.int .i64 (posP cs x.txn)) W2 := by
    have := m2.look mapII_und (zeroI W2) (x := x.txn) hx
    rw [plM_pos hd] at this
    exact this
  have k2 : (Instr.lookup mapII (.map (some r)) (.int .i64 y.txn) false).run Tryz.prog W2 = .ok (.int .i64 (posP cs y.txn)) W2 := by
    have := m2.look mapII_und (zeroI W2) (x := y.txn) hy
    rw [plM_pos hd] at this
    exact this
  have CC := Lib.hid (wcmp_int (posP cs x.txn) (posP cs y.txn) W2)
  generalize posP cs x.txn = z1 at k1 CC ⊢
  generalize posP cs y.txn = z2 at k2 CC ⊢
  generalize cmpI z1 z2 = z3 at CC ⊢
  have HW1 := Lib.hid hW1
  have HW2 := Lib.hid hW2
  have GG := Lib.hid g2
  obtain ⟨xt, xw, xi, xv⟩ := x
  obtain ⟨yt, yw, yi, yv⟩ := y
  dsimp only at *
  clear hW1 hW2 g1 g2 s1 q0 q1 m2 hd hM hc hx hy
  unfold acV
  dsimp only
  go_enter Tryz.func70, Tryz.ntmps70
  go_upto_region 1 with fail
  rw [HW1.out, HW2.out]
  go_wp2_with (go_at_call 55; go_loud (refine CC.out.mono ?_; rintro e w1 ⟨rfl, hw⟩; replace hw := hw.symm; subst hw))
  go_ret
  exact ⟨rfl, GG.out⟩
noncomputable def encAc (a : Ac) : List Value := acC (fixA a)
noncomputable def cmpA (cs : List Int) (a b : Ac) : Int := cmpI (posP cs (fixI a.txn)) (posP cs (fixI b.txn))
theorem ltOf_cmpA (cs : List Int) (a b : Ac) : ltOf (cmpA cs) a b = decide (posP cs (fixI a.txn) < posP cs (fixI b.txn)) := by unfold ltOf cmpA; rw [cmpI_lt]
theorem swo_cmpA (cs : List Int) : Sort.SWO (ltOf (cmpA cs)) where
  irrefl x := by rw [ltOf_cmpA]; simp
  trans x y z h1 h2 := by rw [ltOf_cmpA] at *; simp at *; omega
  ntrans x y z h1 h2 := by rw [ltOf_cmpA] at *; simp at *; omega
theorem Gs.ahead {w w' : World} (h : Gs w w') : ∃ q os', w' = Sort.grow (w.drewN q) os' := h
/-- slices.SortFunc of writes that the call made. -/
theorem wsortAc {base : Nat} {w : World} {v : Value} {ls : List Ac} (h : SO seA base w v ls.length (cellsE acC ls)) (hn : ls.length ≤ 4000000) (hw : ∀ a ∈ ls, wfI a.txn) {r b3 : Nat} {cs : List Int} (hd : cs.Nodup) (hM : MapM KN w r (plM cs cs.length)) (hc : w.cell? ⟨b3, 0, none⟩ = some (.map (some r))) (hr : r < base) (hb3 : b3 < base) :
    Calls Tryz.prog 69 #[v, .func (.func 70) #[] #[.pointer (some ⟨b3, 0, none⟩)]] w fun e w' => e = .returned (.tuple #[]) ∧ (∃ ms : List Ac, ms.Perm ls ∧ ms.Pairwise (fun a b => ¬ posP cs b.txn < posP cs a.txn) ∧ SO seA base w' v ls.length (cellsE acC ms)) ∧ Below base w w' := by
  rcases h.own.2 with ⟨rfl, h0⟩ | ⟨g, cap, cur, rfl, hb, hh, -⟩
  · have hz : ls = [] := List.eq_nil_of_length_eq_zero h0
    subst hz
    have hcon := AnyF.slices_SortFunc_none Tryz.sortAc none 0 (.func (.func 70) #[] #[.pointer (some ⟨b3, 0, none⟩)]) w
    change Calls Tryz.prog 69 _ _ _ at hcon
    refine hcon.mono ?_
    rintro e w' ⟨h1, rfl⟩
    exact ⟨h1, ⟨[], List.Perm.refl _, List.Pairwise.nil, h⟩, Below.refl _ _⟩
  · obtain ⟨A, c, e1, hsb, -⟩ := h.form
    obtain ⟨rfl, rfl⟩ : A = some ⟨g, 0, none⟩ ∧ c = cap := by
      simp at e1; exact ⟨e1.1.symm, e1.2.symm⟩
    rw [show seA.s * ls.length = 4 * ls.length from rfl] at hsb
    have hfix : ∀ l : List Ac, (∀ a ∈ l, wfI a.txn) → cellsE encAc l = cellsE acC l := fun l hl => by
      unfold cellsE
      induction l with
      | nil => rfl
      | cons a l ih =>
        rw [List.flatMap_cons, List.flatMap_cons, ih fun b hb => hl b (List.mem_cons_of_mem _ hb)]
        unfold encAc
        rw [fixA_of (hl a (List.mem_cons_self ..))]
    have hF : (Sort.flatK encAc 4 ls.toArray).toList = cellsE acC ls := (flat_cellsE (f := encAc) (s := 4) (fun _ => rfl) (by omega) ls.toArray).trans (hfix ls hw)
    have hH : Sort.HoldsK encAc 4 w g 0 ls.toArray := fun j hj => by
      have hj' : j < (cellsE acC ls).length := by rw [← hF]; simpa using hj
      obtain ⟨x, hx⟩ : ∃ x, (cellsE acC ls)[j]? = some x := ⟨_, List.getElem?_eq_getElem hj'⟩
      obtain ⟨g1, o1, e2, hc⟩ := hsb.at_ hx
      cases e2
      refine ⟨?_, frozen_of_row _ _ _ _ _ hh⟩
      rw [hc, getElem!_pos (Sort.flatK encAc 4 ls.toArray) j hj]
      rw [← hF, Array.getElem?_toList, Array.getElem?_eq_getElem hj] at hx
      exact congrArg some (Option.some.inj hx).symm
    have hlt := (Array.getElem?_eq_some_iff.1 hh).1
    have eg : ∀ args w, (callFunc 70 args).run Tryz.prog w = .ok (.enter 70 args) w := enters_of Tryz.func70 (by kernel_rfl) rfl
    have hlays : CmpLays Tryz.prog 70 #[.pointer (some ⟨b3, 0, none⟩)] encAc 4 (cmpA cs) g 0 ls.toArray.size w := fun m os dk _ x y => by
      have hgr : r ≠ g := by omega
      have ho : Out (fun k => k = g) w (sortWorldK encAc 4 w g 0 m dk os) := by
        unfold sortWorldK Sort.putRowK
        exact so_sortedE_out
      have hM' := hM.block (ho.block r hM.lt hgr)
      have hc' := ho.cell hc (by show ¬ b3 = g; omega)
      exact wpCmpA hd hM' hc' (x := fixA x) (y := fixA y) (fixI_wf _) (fixI_wf _)
    have hcon := AnyQ.slices_SortFunc Tryz.sortAc 4 Tryz.isAgg44 Tryz.sizeOf44 encAc (fun _ => rfl) (fun x v hv => acC_one _ v hv) (cmpA cs) (swo_cmpA cs) 70 #[.pointer (some ⟨b3, 0, none⟩)] g 0 c ls.toArray w eg hlays hH hlt (by simp; omega)
    change Calls Tryz.prog 69 _ _ _ at hcon
    refine hcon.mono ?_
    rintro e w' ⟨h1, d', m, os, hp, hs, rfl⟩
    obtain ⟨p1, -, p3⟩ := hp
    have hperm : d'.toList.Perm ls := by
      have a1 : d'.extract 0 ls.toArray.size = d' := by rw [← p1]; simp
      have a2 : ls.toArray.extract 0 ls.toArray.size = ls.toArray := by simp
      have : d'.toList.Perm ls.toArray.toList := by rwa [a1, a2] at p3
      simpa using this
    have hw' : ∀ a ∈ d'.toList, wfI a.txn := fun a ha => hw a (hperm.mem_iff.1 ha)
    have hFd : Sort.flatK encAc 4 d' = (cellsE acC d'.toList).toArray := by rw [← hfix _ hw', ← flat_cellsE (f := encAc) (s := 4) (fun _ => rfl) (by omega)]
    refine ⟨h1, ⟨d'.toList, hperm, ?_, ?_⟩, ?_⟩
    · rw [List.pairwise_iff_getElem]
      intro i j hi hj hij
      have hi' : i < d'.size := by simpa using hi
      have hj' : j < d'.size := by simpa using hj
      have h2 := hs i j (Nat.zero_le _) hij (by rw [← p1]; exact hj')
      rw [ltOf_cmpA, getElem!_pos d' i hi', getElem!_pos d' j hj', fixI_of (hw' _ (by simp)), fixI_of (hw' _ (by simp))] at h2
      simpa using h2
    · unfold sortWorldK Sort.putRowK
      rw [hFd]
      exact so_sortedE h (by rw [cellsE_len acC_len, hperm.length_eq]; rfl) (cellsE_one acC_one _)
    · exact so_sortedE_out.below (by omega) fun i hi e => by omega
end Go.Proofs.YtnpeankmmojebaaGreatDoor

/- Layer 11: the program's places and sameKeys. -/
namespace Go.Proofs.YtnpeankmmojebaaGreatDoor
set_option maxRecDepth 100000
set_option maxRecDepth 100000
open Go.RowKit Go.Maps Go.ChangeMaps Go.MapKept

set_option maxHeartbeats 8000000 in
theorem wsPlaces {w : World} {A : Option Addr} {n c : Nat} {l : List Int} (h : SB w A n (numC l)) (hl : l.length = n) (hw : ∀ x ∈ l, wfI x) (hn : n < 4611686018427387904) :
    Calls Tryz.prog 42 #[.slice A n c] w fun e w' => ∃ r, e = .returned (.tuple #[.map (some r), .bool (decide l.Nodup)]) ∧ MapM KN w' r (plM l n) ∧ w.heap.size ≤ r ∧ Below w.heap.size w w' := by
  obtain ⟨W0, hW0⟩ : ∃ W, w.alloc (.map #[] 0) = W := ⟨_, rfl⟩
  have m0 : MapM KN W0 w.heap.size [] := by rw [← hW0]; exact MapM.new KN w
  have b0 : Below w.heap.size w W0 := by rw [← hW0]; exact alloc_below11 _ _
  have rm : (Instr.makeMap mapII (some (.int .i64 (n : Int)))).run Tryz.prog w = .ok (.map (some w.heap.size)) W0 := by rw [← hW0]; exact run_makeMap11 mapII_und w _
  have M0 := Lib.hid m0
  have B0 := Lib.hid b0
  have HS := Lib.hid h
  have HL := Lib.hid hl
  have HW := Lib.hid hw
  have HN := Lib.hid hn
  have HE := Lib.hid (show decide l.Nodup = (((plM l n).length : Int) == (n : Int)) by
    have := plM_len l n (by omega)
    rw [← hl, List.take_length, hl] at this
    by_cases e : l.Nodup
    · simp [e, this.2 e]
    · simp only [e, decide_false]
      symm
      have h2 : ¬ (plM l n).length = n := fun e2 => e (this.1 e2)
      simp; omega)
  clear m0 b0 hW0 h hl hw hn
  go_enter Tryz.func42, Tryz.ntmps42
  go_upto_region 3 with fail
  go_loopw [12] (fun i wr => ∃ j : Nat, i = .int .i64 (j : Nat) ∧ j ≤ n ∧ MapM KN wr w.heap.size (plM l j) ∧ Below w.heap.size w wr) (fun i _ => n - (intOf i).toNat)
  case atStart => exact ⟨0, rfl, Nat.zero_le _, M0.out, B0.out⟩
  case round =>
    rename World => wr
    obtain ⟨j, rfl, hj, hm, hbl⟩ := hrel
    by_cases hlt : j < n
    · obtain ⟨x, hx⟩ : ∃ x, l[j]? = some x := ⟨_, List.getElem?_eq_getElem (by rw [HL.out]; exact hlt)⟩
      obtain ⟨g, o, rfl, c0⟩ := (HS.out.gw hbl).num hx
      have i1 : (j : Int) < (n : Int) := by omega
      have l1 : (j : Int) ≤ 4611686018427387904 := by have := HN.out; omega
      have HX := Lib.hid (HW.out x (List.mem_of_getElem? hx))
      have HT := Lib.hid (plM_next hx)
      have HM := Lib.hid hm
      have HBL := Lib.hid hbl
      have HLT := Lib.hid hlt
      have HLE := Lib.hid (plM_le l j)
      clear hx hm hbl hj hlt
      go_wp2_with (at_mapUpdate; go_loud (refine wp_put11 KN (by rfl) (.tmp 17) (.tmp 18) (.tmp 19) (by rfl) (by rfl) HM.out mapII_und x HX.out (by rfl) (by have := HLE.out; have := HN.out; have := HLT.out; omega) ?_; intro w5 m5 o5; have M5 := Lib.hid m5; have O5 := Lib.hid o5; clear m5 o5; go_frame))
      go_roundw
      case rel =>
        refine ⟨j + 1, by go_num, HLT.out, by rw [HT.out]; exact M5.out, HBL.out.trans (O5.out.below HBL.out.size fun i hi e => by omega)⟩
      case measure => have := HLT.out; simp [intOf]; omega
    · obtain rfl : j = n := by omega
      have i1 : ¬ (j : Int) < (j : Int) := by omega
      have HM := Lib.hid hm
      have HBL := Lib.hid hbl
      have HML := Lib.hid (hm.len mapII_und 3)
      clear hj hlt hm hbl
      have ML := HML.out
      go_wp2
      go_ret2
      exact ⟨_, by rw [HE.out]; rfl, HM.out, Nat.le_refl _, HBL.out⟩
/-- The numbers of a list, each of which stands there once, are those that have a place. -/
def sameP (l cs : List Int) : Bool := (cs.all fun x => decide (x ∈ l)) && decide ((plM l l.length).length = cs.length)
set_option maxHeartbeats 8000000 in
theorem wsSame {w : World} {r : Nat} {l : List Int} (hM : MapM KN w r (plM l l.length)) {A : Option Addr} {n c : Nat} {cs : List Int} (h : SB w A n (numC cs)) (hl : cs.length = n) (hw : ∀ x ∈ cs, wfI x) (hn : n ≤ 4096) (hln : l.length < 4611686018427387904) :
    Calls Tryz.prog 43 #[.map (some r), .slice A n c] w fun e w' => e = .returned (.bool (sameP l cs)) ∧ w' = w := by
  have HM := Lib.hid hM
  have HS := Lib.hid h
  have HL := Lib.hid hl
  have HW := Lib.hid hw
  have HN := Lib.hid hn
  have HML := Lib.hid (hM.len mapII_und 3)
  have HP := Lib.hid (plM_has l l.length)
  have HLE := Lib.hid (show ((plM l l.length).length : Int) < 4611686018427387904 by have := plM_le l l.length; omega)
  clear hM h hl hw hn hln
  go_enter Tryz.func43, Tryz.ntmps43
  go_upto_region 2 with fail
  go_loopw [11] (fun i wr => ∃ j : Nat, i = .int .i64 (j : Nat) ∧ j ≤ n ∧ (cs.take j).all (fun x => decide (x ∈ l)) = true ∧ wr = w) (fun i _ => n - (intOf i).toNat)
  case atStart => exact ⟨0, rfl, Nat.zero_le _, by simp, rfl⟩
  case round =>
    rename World => wr
    obtain ⟨j, rfl, hj, ha, rfl⟩ := hrel
    by_cases hlt : j < n
    · obtain ⟨x, hx⟩ : ∃ x, cs[j]? = some x := ⟨_, List.getElem?_eq_getElem (by rw [HL.out]; exact hlt)⟩
      obtain ⟨g, o, rfl, c0⟩ := HS.out.num hx
      have i1 : (j : Int) < (n : Int) := by omega
      have l1 : (j : Int) ≤ 4096 := by have := HN.out; omega
      have HX := Lib.hid (HW.out x (List.mem_of_getElem? hx))
      have lk : (Instr.lookup mapII (.map (some r)) (.int .i64 x) true).run Tryz.prog wr = .ok (.tuple #[(getM (plM l l.length) x).getD (.int .i64 0), .bool (getM (plM l l.length) x).isSome]) wr := HM.out.look11 mapII_und (zeroI wr) (x := x) HX.out
      rw [HP.out x, List.take_length] at lk
      have HA := Lib.hid ha
      have HXX := Lib.hid hx
      have HLT := Lib.hid hlt
      generalize (getM (plM l l.length) x).getD (.int .i64 0) = v at lk
      clear hx ha hj hlt
      by_cases hin : x ∈ l
      · rw [show decide (x ∈ l) = true by simpa using hin] at lk
        go_wp2
        go_roundw
        case rel => exact ⟨j + 1, by go_num, HLT.out, by rw [List.take_add_one, HXX.out]; simp only [Option.toList_some, List.all_append, HA.out, Bool.true_and, List.all_cons, List.all_nil, Bool.and_true]; simpa using hin, by first | rfl | trivial⟩
        case measure => have := HLT.out; simp [intOf]; omega
      · rw [show decide (x ∈ l) = false by simpa using hin] at lk
        have HF := Lib.hid (show sameP l cs = false by
          unfold sameP
          rw [show (cs.all fun x => decide (x ∈ l)) = false from List.all_eq_false.2 ⟨x, List.mem_of_getElem? HXX.out, by simpa using hin⟩]
          rfl)
        go_wp2
        go_ret
        exact ⟨by rw [HF.out]; rfl, rfl⟩
    · obtain rfl : j = n := by omega
      have i1 : ¬ (j : Int) < (j : Int) := by omega
      have HF := Lib.hid (show sameP l cs = (((plM l l.length).length : Int) == (j : Int)) by
        unfold sameP
        rw [← HL.out, List.take_length] at ha
        rw [ha, Bool.true_and, HL.out]
        by_cases e : (plM l l.length).length = j
        · simp [e]
        · simp only [e, decide_false]; symm; simp; omega)
      have ML := HML.out
      have LE := HLE.out
      clear hj hlt ha
      go_wp2
      go_ret
      exact ⟨by rw [HF.out]; rfl, rfl⟩
end Go.Proofs.YtnpeankmmojebaaGreatDoor

/- Layer 11: one more in a map of counts (m[k]++), as the three instructions that it has become. -/
namespace Go.Proofs.YtnpeankmmojebaaGreatDoor
set_option maxRecDepth 100000
set_option maxRecDepth 100000
open Go.RowKit Go.Maps Go.ChangeMaps Go.MapKept Go.WideElems

theorem setBlock_self {w : World} {b : Nat} {o : Obj} (h : w.heap[b]? = some o) : setBlock w b o = w := by
  have hlt := (Array.getElem?_eq_some_iff.1 h).1
  have he : w.heap[b] = o := (Array.getElem?_eq_some_iff.1 h).2
  unfold setBlock
  have : w.heap.setIfInBounds b o = w.heap := by
    apply Array.ext
    · simp
    · intro i h1 h2
      rw [Array.getElem_setIfInBounds]
      split
      · rename_i e; subst e; exact he.symm
      · rfl
  rw [this]
/-- The entry is there behind the first of the three: with the value that it had, or zero. -/
theorem MapM.entry {w : World} {r : Nat} {hs : List (Vr × Value)} (hM : MapM KV w r hs) {x : Vr} (hx : SzV x) (hlen : hs.length < 4611686018427387904) :
    ∃ st w1 hs1, (Instr.mapEntry mapVI (.map (some r)) (vrV x)).run Tryz.prog w = .ok (.tuple #[(getM hs x).getD (.int .i64 0), .int .i64 (st : Nat)]) w1 ∧ MapM KV w1 r hs1 ∧ (∀ y, (getM hs1 y).getD (.int .i64 0) = (getM hs y).getD (.int .i64 0)) ∧ Out (fun k => k = r) w w1 ∧
      ∀ val : Value, ∃ w2, (Instr.entryStore mapVI (.map (some r)) (.int .i64 (st : Nat)) val).run Tryz.prog w1 = .ok () w2 ∧ MapM KV w2 r (putM hs x val) ∧ Out (fun k => k = r) w w2 := by
  have hM0 := hM
  obtain ⟨D, ho, hv⟩ := hM
  obtain ⟨es, clock, hb, F, hn, hD⟩ := ho
  have hkey := keyOf_vr hx
  have hlt := (Array.getElem?_eq_some_iff.1 hb).1
  have hset : ∀ (o : Obj), (setBlock w r o).heap[r]? = some o := fun o => by simp [setBlock, hlt]
  have htwo : ∀ o o' : Obj, setBlock (setBlock w r o) r o' = setBlock w r o' := fun o o' => by
    simp [setBlock]
  obtain ⟨v0, st, es1, clock1, hrun, -, hst⟩ := entry_then_store (K := ⟨fun h => by obtain ⟨l, -, -, rfl⟩ := keyOf_vr_inv h; exact ⟨_, rfl⟩, lawVr.inj, lawVr.check, lawVr.find, lawVr.stays⟩) mapVI_und zeroI hb F hkey
  have hlk := hM0.look mapVI_und (zeroI w) (x := x) hx
  have key : (v0 = (getM hs x).getD (.int .i64 0)) ∧ ∃ hs1, MapM KV (setBlock w r (.map es1 clock1)) r hs1 ∧ (∀ y, (getM hs1 y).getD (.int .i64 0) = (getM hs y).getD (.int .i64 0)) ∧ Out (fun k => k = r) w (setBlock w r (.map es1 clock1)) := by
    rcases lawVr.find w hkey es.toList F.keys with ⟨h1, h2⟩ | ⟨j, e0, h1, h2, h3⟩
    · have hnone : (getM hs x) = none := by
        have := hM0.look11 mapVI_und (zeroI w) (x := x) hx
        cases hg : getM hs x with
        | none => rfl
        | some u =>
          rw [hg] at this
          have hx2 : KV.enc x = vrV x := rfl
          simp [Instr.lookup, run_underlying mapVI_und, Go.MapKept.run_getObj_map hb, hx2, lawVr.check w _ hkey, h1, Result.andThen] at this
      have hme : (Instr.mapEntry mapVI (.map (some r)) (vrV x)).run Tryz.prog w = .ok (.tuple #[.int .i64 0, .int .i64 (clock : Nat)]) (setBlock w r (.map (es.push ⟨vrV x, .int .i64 0, clock⟩) (clock + 1))) := by
        simp [Instr.mapEntry, run_underlying mapVI_und, Go.MapKept.run_getObj_map hb, lawVr.check w false hkey, h1, Go.MapKept.run_setObj_map _ hb, Result.andThen, setBlock, goInt]
      have hmu : (Instr.mapUpdate mapVI (.map (some r)) (vrV x) (.int .i64 0)).run Tryz.prog w = .ok () (setBlock w r (.map (es.push ⟨vrV x, .int .i64 0, clock⟩) (clock + 1))) := by
        simp [Instr.mapUpdate, run_underlying mapVI_und, Go.MapKept.run_getObj_map hb, lawVr.check w false hkey, h1, Go.MapKept.run_setObj_map _ hb, Result.andThen, setBlock]
      obtain ⟨w', hr, hm, hO⟩ := hM0.upd11 mapVI_und (x := x) hx (.int .i64 0) hlen
      have e1 : w' = setBlock w r (.map (es.push ⟨vrV x, .int .i64 0, clock⟩) (clock + 1)) := by
        have hr' : (Instr.mapUpdate mapVI (.map (some r)) (vrV x) (.int .i64 0)).run Tryz.prog w = .ok () w' := hr
        rw [hmu] at hr'
        simpa using hr'.symm
      rw [hrun] at hme
      simp only [Result.ok.injEq, Value.tuple.injEq, Array.mk.injEq, List.cons.injEq, and_true] at hme
      obtain ⟨⟨hv0, -⟩, hw⟩ := hme
      refine ⟨by rw [hnone]; exact hv0, putM hs x (.int .i64 0), by rw [hw, ← e1]; exact hm, fun y => ?_, by rw [hw, ← e1]; exact hO⟩
      rw [getM_put]
      split
      · rename_i e; rw [e, hnone]; rfl
      · rfl
    · have hj : es[j]? = some e0 := by simpa using h2
      have hsame : es.modify j (fun e => { e with key := vrV x }) = es := by
        apply Array.ext'
        rw [Array.toList_modify]
        rw [modify_eq_set _ _ _ _ h2]
        have : ({ e0 with key := vrV x } : MapEntry) = e0 := by rw [← h3]
        rw [this]
        exact set_self _ _ _ h2
      have hme : (Instr.mapEntry mapVI (.map (some r)) (vrV x)).run Tryz.prog w = .ok (.tuple #[e0.val, .int .i64 (e0.born : Nat)]) (setBlock w r (.map es clock)) := by
        simp [Instr.mapEntry, run_underlying mapVI_und, Go.MapKept.run_getObj_map hb, lawVr.check w false hkey, h1, hj, h3, lawVr.stays w hkey, hsame, Go.MapKept.run_setObj_map _ hb, Result.andThen, setBlock, goInt]
      rw [hrun] at hme
      simp only [Result.ok.injEq, Value.tuple.injEq, Array.mk.injEq, List.cons.injEq, and_true] at hme
      obtain ⟨⟨hv0, -⟩, hw⟩ := hme
      rw [hw, setBlock_self hb]
      have hx2 : KV.enc x = vrV x := rfl
      simp [Instr.lookup, run_underlying mapVI_und, Go.MapKept.run_getObj_map hb, hx2, lawVr.check w _ hkey, h1, Result.andThen] at hlk
      exact ⟨hv0.trans hlk, hs, hM0, fun y => rfl, Out.refl _ _⟩
  obtain ⟨k1, hs1, k2, k3, k4⟩ := key
  refine ⟨st, _, hs1, by rw [k1] at hrun; exact hrun, k2, k3, k4, fun val => ?_⟩
  obtain ⟨es', clock', r1, r2⟩ := hst _ val (hset _)
  obtain ⟨w', hr, hm, hO⟩ := hM0.upd11 mapVI_und (x := x) hx val hlen
  have e1 : w' = setBlock w r (.map es' clock') := by
    have hr' : (Instr.mapUpdate mapVI (.map (some r)) (vrV x) val).run Tryz.prog w = .ok () w' := hr
    rw [r2] at hr'
    simpa using hr'.symm
  exact ⟨_, r1, by rw [htwo, ← e1]; exact hm, by rw [htwo, ← e1]; exact hO⟩
end Go.Proofs.YtnpeankmmojebaaGreatDoor
