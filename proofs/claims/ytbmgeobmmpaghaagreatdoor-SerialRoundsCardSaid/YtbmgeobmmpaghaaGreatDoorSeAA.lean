/- Layer 11: slices.SortFunc of writes by the places of their transactions, by its contract. -/
import Derived.Test.YtbmgeobmmpaghaaGreatDoorSeX
import Derived.Test.YtbmgeobmmpaghaaGreatDoorSeN
set_option linter.unusedVariables false
namespace Go.Proofs.YtbmgeobmmpaghaaGreatDoor
set_option maxRecDepth 100000
open Go.RowKit Go.Maps Go.ChangeMaps Go.MapKept

def acV' (a : Ac) : Value := .agg (acC a).toArray
open Classical in
/-- A number as a key may be: one that is none reads as 0. -/
noncomputable def fixI (x : Int) : Int := if wfI x then x else 0
theorem fixI_wf (x : Int) : wfI (fixI x) := by
  unfold fixI
  split
  · assumption
  · exact wfI_of (by omega)
theorem fixI_of {x : Int} (h : wfI x) : fixI x = x := if_pos h
noncomputable def fixA (a : Ac) : Ac := { a with txn := fixI a.txn }
theorem fixA_of {a : Ac} (h : wfI a.txn) : fixA a = a := by unfold fixA; rw [fixI_of h]
/-- The place of a number; 0 of one that has none. -/
def posP (cs : List Int) (x : Int) : Int := if x ∈ cs then (cs.idxOf x : Nat) else 0
theorem plM_pos {cs : List Int} (hd : cs.Nodup) (x : Int) : (getM (plM cs cs.length) x).getD (.int .i64 0) = .int .i64 (posP cs x) := by
  unfold posP
  by_cases h : x ∈ cs
  · rw [if_pos h, plM_at hd cs.length (cs.idxOf x) x (List.idxOf_lt_length_of_mem h) (plcP_at h)]
    rfl
  · have := plM_has cs cs.length x
    rw [List.take_length] at this
    rw [if_neg h]
    cases hg : getM (plM cs cs.length) x with
    | none => rfl
    | some u => rw [hg] at this; simp [h] at this
set_option maxHeartbeats 16000000 in
theorem wpCmpA {w : World} {r b3 : Nat} {cs : List Int} (hd : cs.Nodup) (hM : MapM KN w r (plM cs cs.length)) (hc : w.cell? ⟨b3, 0, none⟩ = some (.map (some r))) {x y : Ac} (hx : wfI x.txn) (hy : wfI y.txn) :
    Calls Tryz.prog 76 #[acV x, acV y, .pointer (some ⟨b3, 0, none⟩)] w fun e w' => e = .returned (.int .i64 (cmpI (posP cs x.txn) (posP cs y.txn))) ∧ Gs w w' := by
  obtain ⟨W1, hW1⟩ : ∃ W, w.alloc (.cells #[.int .i64 x.txn, .bool x.wr, .string x.item, .int .i64 x.ver] 58) = W := ⟨_, rfl⟩
  obtain ⟨W2, hW2⟩ : ∃ W, W1.alloc (.cells #[.int .i64 y.txn, .bool y.wr, .string y.item, .int .i64 y.ver] 58) = W := ⟨_, rfl⟩
  have g1 : Gs w W1 := by rw [← hW1]; exact (Gs.refl w).alloc _
  have g2 : Gs w W2 := by rw [← hW2]; exact g1.alloc _
  have s1 : W1.heap.size = w.heap.size + 1 := by have := congrArg (fun W => W.heap.size) hW1; simpa using this.symm
  have q0 : W2.heap[w.heap.size]? = some (.cells #[.int .i64 x.txn, .bool x.wr, .string x.item, .int .i64 x.ver] 58 (0, 0)) := by
    rw [← hW2, Below.heap_alloc _ _ _ (by omega), ← hW1]; exact heap_alloc_new _ _
  have q1 : W2.heap[w.heap.size + 1]? = some (.cells #[.int .i64 y.txn, .bool y.wr, .string y.item, .int .i64 y.ver] 58 (0, 0)) := by
    rw [← s1, ← hW2]; exact heap_alloc_new _ _
  have c0 : W2.cell? ⟨w.heap.size, 0, none⟩ = some (.int .i64 x.txn) := cell_of_row _ _ 0 _ _ _ q0
  have c1 : W2.cell? ⟨w.heap.size + 1, 0, none⟩ = some (.int .i64 y.txn) := cell_of_row _ _ 0 _ _ _ q1
  have c2 := keep_below hc g2.below
  have m2 : MapM KN W2 r (plM cs cs.length) := hM.block (g2.below.block _ hM.lt)
  have k1 : (Instr.lookup mapII (.map (some r)) (.int .i64 x.txn) false).run Tryz.prog W2 = .ok (.int .i64 (posP cs x.txn)) W2 := by
    have := m2.look mapII_und (zeroI W2) (x := x.txn) hx
    rw [plM_pos hd] at this
    exact this
  have k2 : (Instr.lookup mapII (.map (some r)) (.int .i64 y.txn) false).run Tryz.prog W2 = .ok (.int .i64 (posP cs y.txn)) W2 := by
    have := m2.look mapII_und (zeroI W2) (x := y.txn) hy
    rw [plM_pos hd] at this
    exact this
  have CC := Lib.hid (wcmp_int (posP cs x.txn) (posP cs y.txn) W2)
  generalize posP cs x.txn = z1 at k1 CC ⊢
  generalize posP cs y.txn = z2 at k2 CC ⊢
  generalize cmpI z1 z2 = z3 at CC ⊢
  have HW1 := Lib.hid hW1
  have HW2 := Lib.hid hW2
  have GG := Lib.hid g2
  obtain ⟨xt, xw, xi, xv⟩ := x
  obtain ⟨yt, yw, yi, yv⟩ := y
  dsimp only at *
  clear hW1 hW2 g1 g2 s1 q0 q1 m2 hd hM hc hx hy
  unfold acV
  dsimp only
  go_enter Tryz.func76, Tryz.ntmps76
  go_upto_region 1 with fail
  rw [HW1.out, HW2.out]
  go_wp2_with (go_at_call 59; go_loud (refine CC.out.mono ?_; rintro e w1 ⟨rfl, hw⟩; replace hw := hw.symm; subst hw))
  go_ret
  exact ⟨rfl, GG.out⟩
noncomputable def encAc (a : Ac) : List Value := acC (fixA a)
noncomputable def cmpA (cs : List Int) (a b : Ac) : Int := cmpI (posP cs (fixI a.txn)) (posP cs (fixI b.txn))
theorem ltOf_cmpA (cs : List Int) (a b : Ac) : ltOf (cmpA cs) a b = decide (posP cs (fixI a.txn) < posP cs (fixI b.txn)) := by unfold ltOf cmpA; rw [cmpI_lt]
theorem swo_cmpA (cs : List Int) : Sort.SWO (ltOf (cmpA cs)) where
  irrefl x := by rw [ltOf_cmpA]; simp
  trans x y z h1 h2 := by rw [ltOf_cmpA] at *; simp at *; omega
  ntrans x y z h1 h2 := by rw [ltOf_cmpA] at *; simp at *; omega
theorem Gs.ahead {w w' : World} (h : Gs w w') : ∃ q os', w' = Sort.grow (w.drewN q) os' := h
/-- slices.SortFunc of writes that the call made. -/
theorem wsortAc {base : Nat} {w : World} {v : Value} {ls : List Ac} (h : SO seA base w v ls.length (cellsE acC ls)) (hn : ls.length ≤ 4000000) (hw : ∀ a ∈ ls, wfI a.txn) {r b3 : Nat} {cs : List Int} (hd : cs.Nodup) (hM : MapM KN w r (plM cs cs.length)) (hc : w.cell? ⟨b3, 0, none⟩ = some (.map (some r))) (hr : r < base) (hb3 : b3 < base) :
    Calls Tryz.prog 75 #[v, .func (.func 76) #[] #[.pointer (some ⟨b3, 0, none⟩)]] w fun e w' => e = .returned (.tuple #[]) ∧ (∃ ms : List Ac, ms.Perm ls ∧ ms.Pairwise (fun a b => ¬ posP cs b.txn < posP cs a.txn) ∧ SO seA base w' v ls.length (cellsE acC ms)) ∧ Below base w w' := by
  rcases h.own.2 with ⟨rfl, h0⟩ | ⟨g, cap, cur, rfl, hb, hh, -⟩
  · have hz : ls = [] := List.eq_nil_of_length_eq_zero h0
    subst hz
    have hcon := AnyF.slices_SortFunc_none Tryz.sortAc none 0 (.func (.func 76) #[] #[.pointer (some ⟨b3, 0, none⟩)]) w
    change Calls Tryz.prog 75 _ _ _ at hcon
    refine hcon.mono ?_
    rintro e w' ⟨h1, rfl⟩
    exact ⟨h1, ⟨[], List.Perm.refl _, List.Pairwise.nil, h⟩, Below.refl _ _⟩
  · obtain ⟨A, c, e1, hsb, -⟩ := h.form
    obtain ⟨rfl, rfl⟩ : A = some ⟨g, 0, none⟩ ∧ c = cap := by
      simp at e1; exact ⟨e1.1.symm, e1.2.symm⟩
    rw [show seA.s * ls.length = 4 * ls.length from rfl] at hsb
    have hfix : ∀ l : List Ac, (∀ a ∈ l, wfI a.txn) → cellsE encAc l = cellsE acC l := fun l hl => by
      unfold cellsE
      induction l with
      | nil => rfl
      | cons a l ih =>
        rw [List.flatMap_cons, List.flatMap_cons, ih fun b hb => hl b (List.mem_cons_of_mem _ hb)]
        unfold encAc
        rw [fixA_of (hl a (List.mem_cons_self ..))]
    have hF : (Sort.flatK encAc 4 ls.toArray).toList = cellsE acC ls := (flat_cellsE (f := encAc) (s := 4) (fun _ => rfl) (by omega) ls.toArray).trans (hfix ls hw)
    have hH : Sort.HoldsK encAc 4 w g 0 ls.toArray := fun j hj => by
      have hj' : j < (cellsE acC ls).length := by rw [← hF]; simpa using hj
      obtain ⟨x, hx⟩ : ∃ x, (cellsE acC ls)[j]? = some x := ⟨_, List.getElem?_eq_getElem hj'⟩
      obtain ⟨g1, o1, e2, hc⟩ := hsb.at_ hx
      cases e2
      refine ⟨?_, frozen_of_row _ _ _ _ _ hh⟩
      rw [hc, getElem!_pos (Sort.flatK encAc 4 ls.toArray) j hj]
      rw [← hF, Array.getElem?_toList, Array.getElem?_eq_getElem hj] at hx
      exact congrArg some (Option.some.inj hx).symm
    have hlt := (Array.getElem?_eq_some_iff.1 hh).1
    have eg : ∀ args w, (callFunc 76 args).run Tryz.prog w = .ok (.enter 76 args) w := enters_of Tryz.func76 (by kernel_rfl) rfl
    have hlays : CmpLays Tryz.prog 76 #[.pointer (some ⟨b3, 0, none⟩)] encAc 4 (cmpA cs) g 0 ls.toArray.size w := fun m os dk _ x y => by
      have hgr : r ≠ g := by omega
      have ho : Out (fun k => k = g) w (sortWorldK encAc 4 w g 0 m dk os) := by
        unfold sortWorldK Sort.putRowK
        exact so_sortedE_out
      have hM' := hM.block (ho.block r hM.lt hgr)
      have hc' := ho.cell hc (by show ¬ b3 = g; omega)
      exact wpCmpA hd hM' hc' (x := fixA x) (y := fixA y) (fixI_wf _) (fixI_wf _)
    have hcon := AnyQ.slices_SortFunc Tryz.sortAc 4 Tryz.isAgg58 Tryz.sizeOf58 encAc (fun _ => rfl) (fun x v hv => acC_one _ v hv) (cmpA cs) (swo_cmpA cs) 76 #[.pointer (some ⟨b3, 0, none⟩)] g 0 c ls.toArray w eg hlays hH hlt (by simp; omega)
    change Calls Tryz.prog 75 _ _ _ at hcon
    refine hcon.mono ?_
    rintro e w' ⟨h1, d', m, os, hp, hs, rfl⟩
    obtain ⟨p1, -, p3⟩ := hp
    have hperm : d'.toList.Perm ls := by
      have a1 : d'.extract 0 ls.toArray.size = d' := by rw [← p1]; simp
      have a2 : ls.toArray.extract 0 ls.toArray.size = ls.toArray := by simp
      have : d'.toList.Perm ls.toArray.toList := by rwa [a1, a2] at p3
      simpa using this
    have hw' : ∀ a ∈ d'.toList, wfI a.txn := fun a ha => hw a (hperm.mem_iff.1 ha)
    have hFd : Sort.flatK encAc 4 d' = (cellsE acC d'.toList).toArray := by rw [← hfix _ hw', ← flat_cellsE (f := encAc) (s := 4) (fun _ => rfl) (by omega)]
    refine ⟨h1, ⟨d'.toList, hperm, ?_, ?_⟩, ?_⟩
    · rw [List.pairwise_iff_getElem]
      intro i j hi hj hij
      have hi' : i < d'.size := by simpa using hi
      have hj' : j < d'.size := by simpa using hj
      have h2 := hs i j (Nat.zero_le _) hij (by rw [← p1]; exact hj')
      rw [ltOf_cmpA, getElem!_pos d' i hi', getElem!_pos d' j hj', fixI_of (hw' _ (by simp)), fixI_of (hw' _ (by simp))] at h2
      simpa using h2
    · unfold sortWorldK Sort.putRowK
      rw [hFd]
      exact so_sortedE h (by rw [cellsE_len acC_len, hperm.length_eq]; rfl) (cellsE_one acC_one _)
    · exact so_sortedE_out.below (by omega) fun i hi e => by omega
end Go.Proofs.YtbmgeobmmpaghaaGreatDoor
