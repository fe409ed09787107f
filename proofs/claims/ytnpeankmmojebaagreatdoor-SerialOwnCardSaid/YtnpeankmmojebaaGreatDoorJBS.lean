import Derived.Test.YtnpeankmmojebaaGreatDoorJAH
import Derived.Lib.SliceRun
import Derived.Test.YtnpeankmmojebaaGreatDoorJBF
import Derived.Test.YtnpeankmmojebaaGreatDoorJBD
import Derived.Test.YtnpeankmmojebaaGreatDoorSeHd
import Derived.Test.YtnpeankmmojebaaGreatDoorSeAe
import Derived.Test.YtnpeankmmojebaaGreatDoorJBI
import Derived.Sort.CutIn
import Derived.Test.YtnpeankmmojebaaGreatDoorJAA
import Derived.ProofKit
import Derived.OpenShut
import Derived.ShutString
import Derived.ChangeOld
import Derived.SizedLaws
import Derived.Lib.SmallJoins
import Derived.Deep.Fields
/- Layer 11: slices.Clone at int and at Act. -/
set_option linter.unusedVariables false
namespace Go.Proofs.YtnpeankmmojebaaGreatDoor
set_option maxRecDepth 100000
set_option maxRecDepth 100000
open Go.RowKit

theorem so_none11 (E : SEl) (w : World) : SO E w.heap.size (w.alloc (.cells #[] E.e)) (.slice (some ⟨w.heap.size, 0, none⟩) 0 0) 0 [] :=
  ⟨⟨by simp, .inr ⟨w.heap.size, 0, _, rfl, Nat.le_refl _, heap_alloc_new _ _, Nat.le_refl _, by simp [maxLen], by simp, by simp⟩⟩, by simp, by simp⟩
set_option maxHeartbeats 4000000 in
theorem wcloneI {w : World} {A : Option Addr} {n c : Nat} {vs : List Value} (h : SB w A n vs) (hn : n ≤ 1000000) :
    Calls Tryz.prog 12 #[.slice A n c] w fun e w' => ∃ A' c', e = .returned (.slice A' n c') ∧ SB w' A' n vs ∧ Below w.heap.size w w' := by
  have he := fun w (a : Option Addr) => Lib.run_eql_slice_nil w _ _ a n c 0 0 Tryz.underlying22
  rcases A with _ | ad
  · have hz : n = 0 := by
      rcases Nat.eq_zero_or_pos n with h0 | h0
      · exact h0
      · obtain ⟨g, q, e, -⟩ := h.cell h0
        cases e
    subst hz
    have H := Lib.hid h
    have e1 := he w none
    clear h
    go_enter Tryz.func12, Tryz.ntmps12
    go_wp2
    go_ret
    exact ⟨none, 0, rfl, H.out, Below.refl _ _⟩
  · have O0 := Lib.hid (so_none11 seI w)
    obtain ⟨W1, hW1⟩ : ∃ W, w.alloc (.cells #[] 3) = W := ⟨_, rfl⟩
    have b1 : Below w.heap.size w W1 := hW1 ▸ alloc_below11 w _
    have O1 := Lib.hid (show SO seI w.heap.size W1 (.slice (some ⟨w.heap.size, 0, none⟩) 0 0) 0 [] from hW1 ▸ O0.out)
    have H1 := Lib.hid (show SB W1 (some ad) (seI.s * n) vs by rw [show seI.s * n = n from Nat.one_mul n]; exact h.gw b1)
    have HB := Lib.hid b1
    have HW := Lib.hid hW1
    have HN := Lib.hid hn
    have e1 := fun w => he w (some ad)
    clear he h hn b1 hW1 O0
    go_enter Tryz.func12, Tryz.ntmps12
    go_wp2_with (at_builtin; rw [HW.out]; go_loud (refine so_append seI_ok (by rfl) (.tmp 5) (.tmp 6) (by rfl) _ (by rfl) O1.out (some ad) n c vs (by rfl) H1.out (by (have := HN.out; omega)) HB.out.size ?_; intro v2 w2 o2 b2; have O2 := Lib.hid o2; have B2 := Lib.hid (show Below w.heap.size w w2 from HB.out.trans b2); clear o2 b2))
    go_ret
    have o2 := O2.out
    rw [List.nil_append, Nat.zero_add] at o2
    obtain ⟨A', c', rfl, h', -⟩ := o2.form
    rw [show seI.s * n = n from Nat.one_mul n] at h'
    exact ⟨A', c', rfl, h', B2.out⟩
set_option maxHeartbeats 4000000 in
theorem wcloneA {w : World} {A : Option Addr} {n c : Nat} {vs : List Value} (h : SB w A (4 * n) vs) (hn : n ≤ 1000000) :
    Calls Tryz.prog 13 #[.slice A n c] w fun e w' => ∃ A' c', e = .returned (.slice A' n c') ∧ SB w' A' (4 * n) vs ∧ Below w.heap.size w w' := by
  have he := fun w (a : Option Addr) => Lib.run_eql_slice_nil w _ _ a n c 0 0 Tryz.underlying23
  rcases A with _ | ad
  · have hz : n = 0 := by
      rcases Nat.eq_zero_or_pos n with h0 | h0
      · exact h0
      · obtain ⟨g, q, e, -⟩ := h.cell (by omega)
        cases e
    subst hz
    have H := Lib.hid h
    have e1 := he w none
    clear h
    go_enter Tryz.func13, Tryz.ntmps13
    go_wp2
    go_ret
    exact ⟨none, 0, rfl, H.out, Below.refl _ _⟩
  · have O0 := Lib.hid (so_none11 seA w)
    obtain ⟨W1, hW1⟩ : ∃ W, w.alloc (.cells #[] 44) = W := ⟨_, rfl⟩
    have b1 : Below w.heap.size w W1 := hW1 ▸ alloc_below11 w _
    have O1 := Lib.hid (show SO seA w.heap.size W1 (.slice (some ⟨w.heap.size, 0, none⟩) 0 0) 0 [] from hW1 ▸ O0.out)
    have H1 := Lib.hid (show SB W1 (some ad) (seA.s * n) vs from h.gw b1)
    have HB := Lib.hid b1
    have HW := Lib.hid hW1
    have HN := Lib.hid hn
    have e1 := fun w => he w (some ad)
    clear he h hn b1 hW1 O0
    go_enter Tryz.func13, Tryz.ntmps13
    go_wp2_with (at_builtin; rw [HW.out]; go_loud (refine so_append seA_ok (by rfl) (.tmp 5) (.tmp 6) (by rfl) _ (by rfl) O1.out (some ad) n c vs (by rfl) H1.out (by (have := HN.out; omega)) HB.out.size ?_; intro v2 w2 o2 b2; have O2 := Lib.hid o2; have B2 := Lib.hid (show Below w.heap.size w w2 from HB.out.trans b2); clear o2 b2))
    go_ret
    have o2 := O2.out
    rw [List.nil_append, Nat.zero_add] at o2
    obtain ⟨A', c', rfl, h', -⟩ := o2.form
    exact ⟨A', c', rfl, h', B2.out⟩
end Go.Proofs.YtnpeankmmojebaaGreatDoor

/- Layer 11: how long a round may be. -/
namespace Go.Proofs.YtnpeankmmojebaaGreatDoor
set_option maxRecDepth 100000

theorem RdIs.len {cs : List Int} {ac : List Ac} {l : List Int} (hR : Right cs ac) (h : RdIs cs ac l) : l.length ≤ 4096 := by
  obtain ⟨r, h1, -, rfl⟩ := h
  rw [List.length_map]
  have hn := hR.lc
  rcases h1 with ⟨rfl, -⟩ | ⟨f, k, a1, a2, a3, a4, a5, -⟩
  · simp
  · have : DistIs (edgesP (riseP cs) (graphP cs ac)) k f f := ⟨a2, fun i hi => a3 f i a1 hi⟩
    have := dist_le hR.edOk this
    omega
end Go.Proofs.YtnpeankmmojebaaGreatDoor

/- Layer 11: what the law on memory rests on. -/
namespace Go.Proofs.YtnpeankmmojebaaGreatDoor
set_option maxRecDepth 100000
open Go.RowKit Go.Shelf

attribute [local go_sem] Oper.semAt_some

/-- The history and the result, each in a block of its own. -/
structure BoxN (w W : World) (A : Option Addr) (n c : Nat) (B : Option Addr) (m d : Nat) (cs : List Int) (ac : List Ac) : Prop where
  eq : (w.alloc (.cells #[.slice A n c, .slice B m d] 25)).alloc (.cells #[.bool false] 4) = W
  below : Below w.heap.size w W
  size : W.heap.size = w.heap.size + 2
  hq : W.heap[w.heap.size]? = some (.cells #[.slice A n c, .slice B m d] 25 (0, 0))
  rq : Vx W (w.heap.size + 1) (.bool false) 4
  h : Hist W A n c B m d cs ac
theorem Hist.boxN {w : World} {A B : Option Addr} {n c m d : Nat} {cs : List Int} {ac : List Ac} (h : Hist w A n c B m d cs ac) : ∃ W, BoxN w W A n c B m d cs ac := by
  have b0 : Below w.heap.size w (w.alloc (.cells #[.slice A n c, .slice B m d] 25)) := alloc_below11 _ _
  have q0 := heap_alloc_new w (.cells #[.slice A n c, .slice B m d] 25)
  generalize hw1 : w.alloc (.cells #[.slice A n c, .slice B m d] 25) = w1 at b0 q0
  have z1 : w1.heap.size = w.heap.size + 1 := by rw [← hw1]; simp
  have b1 : Below w1.heap.size w1 (w1.alloc (.cells #[.bool false] 4)) := alloc_below11 _ _
  have q1 := Vx.new w1 (.bool false) 4
  rw [z1] at q1
  have b3 := below_next b0 b1
  refine ⟨_, by rw [hw1], b3, by simp [z1], ?_, q1, h.gw b3⟩
  have l0 := (Array.getElem?_eq_some_iff.1 q0).1
  exact (b1.block _ l0).trans q0
theorem firstO_leN {n : Nat} {cs : List Int} {M : List Nat} (h : n ≤ 4096) : (firstO cs n M).length ≤ 4096 := by
  unfold firstO
  split
  · rename_i hM; simp [numsP, hM]; exact h
  · simp
/-- What is changed are cells. -/
theorem others_out {A B : World} {F : Nat → Prop} (ho : Out F A B) (hF : ∀ k o, F k → A.heap[k]? = some o → o.isCells = true) : KeepsOthers A B :=
  ⟨ho.size, fun k o hk hc => (ho.block k (Array.getElem?_eq_some_iff.1 hk).1 (fun e => by have := hF k o e hk; rw [hc] at this; cases this)).trans hk⟩
theorem Vx.isC {X : World} {b : Nat} {v : Value} {t : TypeId} (h : Vx X b v t) {o : Obj} (ho : X.heap[b]? = some o) : o.isCells = true := by
  unfold Vx at h; rw [h] at ho; cases ho; rfl
def tmR (p2 p4 p19 p20 : Nat) (x : Value) (us : Nat → Value) : Array Value := #[us 0, us 1, .pointer (some ⟨p2, 0, none⟩), us 3, .pointer (some ⟨p4, 0, none⟩), us 5, us 6, us 7, us 8, us 9, us 10, us 11, us 12, us 13, us 14, us 15, us 16, us 17, us 18, .pointer (some ⟨p19, 0, none⟩), .pointer (some ⟨p20, 0, none⟩), x, us 22, us 23, us 24, us 25, us 26, us 27, us 28, us 29, us 30, us 31, us 32, us 33, us 34, us 35, us 36, us 37, us 38, us 39, us 40, us 41, us 42, us 43, us 44, us 45, us 46, us 47, us 48, us 49, us 50, us 51, us 52, us 53, us 54, us 55, us 56, us 57, us 58, us 59, us 60, us 61, us 62, us 63, us 64, us 65, us 66, us 67, us 68, us 69, us 70, us 71, us 72, us 73, us 74, us 75, us 76, us 77, us 78, us 79, us 80, us 81, us 82, us 83, us 84, us 85, us 86, us 87, us 88, us 89, us 90, us 91, us 92, us 93, us 94, us 95, us 96, us 97, us 98, us 99, us 100, us 101, us 102, us 103, us 104, us 105, us 106, us 107, us 108, us 109, us 110, us 111, us 112, us 113, us 114, us 115, us 116, us 117, us 118, us 119, us 120, us 121, us 122, us 123, us 124, us 125, us 126, us 127, us 128, us 129, us 130, us 131, us 132, us 133, us 134, us 135, us 136, us 137, us 138, us 139, us 140, us 141, us 142, us 143, us 144, us 145, us 146, us 147, us 148, us 149, us 150, us 151, us 152, us 153, us 154, us 155, us 156]
/-- Where a round begins. -/
def AxR (p2 p4 p19 p20 : Nat) (x : List Int × Value) (a' : Act) (_ : World) : Prop := ∃ us : Nat → Value, a' = { tmps := tmR p2 p4 p19 p20 x.2 us, defers := [] }
theorem AxR.mk' {p2 p4 p19 p20 : Nat} {x : List Int × Value} {a' : Act} {W' : World} (h : a' = { tmps := tmR p2 p4 p19 p20 x.2 (fun k => a'.tmps.getD k undef), defers := [] }) : AxR p2 p4 p19 p20 x a' W' := ⟨_, h⟩
/-- What a range over Orders keeps: how many have been. -/
def IR (V : World) (p f : Nat) (pre : List (List Int × Value)) (X : World) : Prop := Vx X p (.int .i64 (pre.length : Nat)) 3 ∧ Out (fun k => k = p ∨ V.heap.size ≤ k) V X ∧ pre.length ≤ f
section
variable {V A B : World} {p f : Nat} {pre : List (List Int × Value)}
theorem IR.gw (h : IR V p f pre A) (hb : Below A.heap.size A B) : IR V p f pre B := ⟨h.1.gw hb, h.2.1.then (Out.of_below hb _), h.2.2⟩
theorem IR.turn {l : Nat} {o : Obj} (h : IR V p f pre A) (o' : Obj) (hl : V.heap.size ≤ l) (ho : A.heap[l]? = some o) (hc : o.isCells = false) : IR V p f pre (A.putObj l o') :=
  ⟨h.1.turn o' ho hc, h.2.1.grown (grownBy_putObj' A l o') (fun k e => by cases e; exact .inl (.inr hl)), h.2.2⟩
theorem IR.out (h : IR V p f pre A) (hp : p < V.heap.size) (ho : Out (fun k => V.heap.size + 2 ≤ k) A B) : IR V p f pre B :=
  ⟨(ho.block p h.1.lt (fun e => by have e : V.heap.size + 2 ≤ p := e; omega)).trans h.1, h.2.1.trans ho (fun i _ e => .inr (by have e : V.heap.size + 2 ≤ i := e; omega)), h.2.2⟩
end
section
variable {w : World} {A B : Option Addr} {n c m d : Nat} {cs : List Int} {ac : List Ac} {M : List Nat}
theorem wsOrderSO (h : Hist w A n c B m d cs ac) (hR : Right cs ac) (hT : TzAt w) (hM : FillP (edgeH cs ac) n [] M) :
    Calls Tryz.prog 7 #[histV A n c B m d] w fun e w' => ∃ v, e = .returned (.tuple #[v, .bool (decide (M.length = n)), .int .i64 0]) ∧ SO seI w.heap.size w' v (firstO cs n M).length (numC (firstO cs n M)) ∧ Below w.heap.size w w' := by
  refine (wsOrderOk h hR hT hM).mono ?_
  rintro e w' ⟨v, rfl, s, b⟩
  refine ⟨v, rfl, ?_, b⟩
  unfold firstO
  by_cases hM' : M.length = n
  · rw [if_pos hM', if_pos hM'] at s
    rw [if_pos hM', show (numsP cs M).length = M.length by simp [numsP]]
    exact s
  · rw [if_neg hM', if_neg hM'] at s
    rw [if_neg hM']
    exact s
set_option maxHeartbeats 32000000 in
theorem wlOwnNo (h : Hist w A n c B m d cs ac) (hR : ¬ Right cs ac) (mo : Int) :
    Calls Tryz.prog 4 #[histV A n c B m d, .int .u8 mo] w fun e w' => e = .returned (.bool true) ∧ Below w.heap.size w w' := by
  obtain ⟨W0, hB⟩ := h.boxN
  have HB := Lib.hid hB
  have HW := Lib.hid hB.eq
  have x0 := cell_of_row _ _ 0 _ _ _ hB.hq
  have x1 := cell_of_row _ _ 1 _ _ _ hB.hq
  have RQ := Lib.hid hB.rq
  have CL := Lib.hid wlLive
  have CR := Lib.hid (wlRightNo hB.h hR)
  unfold histV at CR ⊢
  simp at x0 x1
  clear h hB hR
  go_enter Tryz.func4, Tryz.ntmps4
  go_upto_region 1 with fail
  rw [HW.out]
  go_upto_region 2 with (go_at_call 5; go_loud (refine CR.out.mono ?_; rintro e w1 ⟨rfl, b1⟩; have B1 := Lib.hid b1; have R1 := Lib.hid (RQ.out.gw b1); clear b1))
  go_upto_region 3 with fail
  go_wp2_with (go_at_call 6; go_loud (refine (CL.out _).mono ?_; rintro e w2 ⟨rfl, b2⟩; have B2 := Lib.hid b2; have r2 := R1.out.gw b2; have R2 := Lib.hid r2; have rc := r2.c; have rf := r2.f; clear b2 r2))
  have BF := Lib.hid (show Below w.heap.size w (w2.setCell ⟨w.heap.size + 1, 0, none⟩ (.bool true)) from (below_next (below_next HB.out.below B1.out) B2.out).setCell (p := ⟨w.heap.size + 1, 0, none⟩) (by show w.heap.size ≤ w.heap.size + 1; omega) _)
  have c5 := (R2.out.set (.bool true)).c
  go_wp2
  exact bodyPost_ret (v := .bool true) (by simp [results, Tryz.results4, go_sem, c5]) rfl ⟨rfl, BF.out⟩
end
end Go.Proofs.YtnpeankmmojebaaGreatDoor

/- How the arguments of a law are opened: bytes, texts, numbers, and what their sizes are. No program is named here. -/
namespace Go.Proofs.YtnpeankmmojebaaGreatDoor
set_option maxRecDepth 100000
open Go.Joins Go.Deep Go.ChangeShapes Go.WideShapes Go.ChangeAt Go.RowKit

section
variable {H : Type} {enc : TypeId × Value → H} {P : Program} {w : World} {held : Bool}

theorem wf_i64 {a : Int} (h : (Lit.int .i64 a).wf = true) : -9223372036854775808 ≤ a ∧ a ≤ 9223372036854775807 := by
  simpa [Lit.wf, IntKind.min, IntKind.max, IntKind.bits, IntKind.signed] using h
theorem wf_u64 {a : Int} (h : (Lit.int .u64 a).wf = true) : 0 ≤ a ∧ a ≤ 18446744073709551615 := by
  simpa [Lit.wf, IntKind.min, IntKind.max, IntKind.bits, IntKind.signed] using h
theorem wf_u32 {a : Int} (h : (Lit.int .u32 a).wf = true) : 0 ≤ a ∧ a ≤ 4294967295 := by
  simpa [Lit.wf, IntKind.min, IntKind.max, IntKind.bits, IntKind.signed] using h
theorem wf_u8 {a : Int} (h : (Lit.int .u8 a).wf = true) : 0 ≤ a ∧ a ≤ 255 := by
  simpa [Lit.wf, IntKind.min, IntKind.max, IntKind.bits, IntKind.signed] using h

theorem open_bytes {t e : TypeId} {fuel : Nat} {v : Value} {y : DataW H × List MemPlace} (ht : P.underlying t = some (.slice e)) (he : P.underlying e = some (.int .u8)) (hc : P.cellsOf e = 1)
    (h : DataW.trod enc P w 0 (fun _ => true) held fuel t [v] = some y) :
    ∃ A len cap zs, v = .slice A len cap ∧ RB w A len zs ∧ len ≤ cap ∧ cap ≤ maxLen ∧
      ((y.1 = .nil ∧ cap = 0) ∨ ∃ elems rest, y.1 = .slice elems rest ∧ elems.length + rest.length = cap) := by
  rcases open_ints ht he hc h with ⟨hcs, hy⟩ | ⟨x, l, c, zs, hcs, _, hl, hm, hz, hy, hcell, hwz⟩
  · obtain rfl : v = .slice none 0 0 := by simpa using hcs
    exact ⟨none, 0, 0, [], rfl, RB.empty w _, Nat.le_refl _, by simp [maxLen], .inl ⟨by rw [hy], rfl⟩⟩
  · obtain rfl : v = .slice (some x) l c := by simpa using hcs
    have hz' : zs.length = c := by simpa using hz
    refine ⟨some x, l, c, zs.take l, rfl, ⟨by simp; omega, fun z hzz => ?_, fun _ => ⟨x, rfl, fun j hj => ?_⟩⟩, hl, hm, .inr ⟨_, _, by rw [hy], ?_⟩⟩
    · exact wf_u8 (hwz z (List.mem_of_mem_take hzz))
    · rw [hcell j (by omega)]
      simp [List.getD_eq_getElem?_getD, hj]
    · simp [lits]; omega

/-- A struct of one-cell fields, by value: its fields' values, and each field's reading. -/
theorem open_struct {r : Reach} {b0 : Nat} {t : TypeId} {fs : Array Field} {v : Value} {d : DataW H} {p : List MemPlace} (hs : P.underlying t = some (.struct fs)) (hone : oneCellFields P fs = true) (hC : P.cellsOf t = fs.size)
    (hv : Value.okWide P w r b0 t v) (h : DataW.Trod enc P w 0 (fun _ => true) held t v d p) :
    ∃ (vs : List Value) (ys : List (DataW H × List MemPlace)) (n : Nat), v = .agg vs.toArray ∧ vs.length = fs.size ∧ ys.length = fs.size ∧ d = .agg (ys.map (·.1)) ∧
      ∀ (j : Nat) (f : Field), fs[j]? = some f → DataW.trod enc P w 0 (fun _ => true) held n f.type [vs.getD j undef] = some (ys.getD j (.nil, [])) := by
  obtain ⟨cs, rfl, hsz⟩ := okWide_struct hs hv
  obtain ⟨fuel, hf⟩ := h
  obtain ⟨xs, n, _, hx, hcl, hlen, hg⟩ := DataW.trod_struct hs hf
  have hcl' : cs.toList.length = fs.size := by simpa [Value.cells] using hcl.trans hC
  refine ⟨cs.toList, xs, n, rfl, hcl', hlen, by rw [Prod.mk.injEq] at hx; exact hx.1, fun j f hj => ?_⟩
  obtain ⟨ho, hk⟩ := hone_of hone j f hj
  have hjl : j < fs.size := (Array.getElem?_eq_some_iff.1 hj).1
  have h1 := hg j f hj
  rw [ho, hk] at h1
  have e1 : ((Value.cells (.agg cs)).toList.drop j).take 1 = [cs.toList.getD j undef] := by
    show (cs.toList.drop j).take 1 = _
    rw [List.drop_eq_getElem_cons (by omega)]
    simp [List.getD_eq_getElem?_getD, List.getElem?_eq_getElem (show j < cs.toList.length by omega)]
  rw [e1] at h1
  rw [h1, List.getD_eq_getElem?_getD, List.getElem?_eq_getElem (show j < xs.length by omega)]
  rfl

/-- What a reading weighs is within the reach. -/
def Light (P : Program) (t : TypeId) (d : DataW H) : Prop := ∀ n ∈ d.weights P t, n ≤ reachBytes

theorem light_each {ts : List TypeId} {ds : List (DataW H)} (h : (DataW.weightsEach P ts ds).all (· ≤ reachBytes) = true) {j : Nat} {t : TypeId} {d : DataW H} (ht : ts[j]? = some t) (hd : ds[j]? = some d) : Light P t d :=
  fun n hn => by
    have := List.all_eq_true.1 h n (DataW.weights_mem_each ht hd n hn)
    simpa using this

theorem light_field {t : TypeId} {fs : Array Field} {parts : List (DataW H)} (hs : P.underlying t = some (.struct fs)) (h : Light P t (.agg parts)) {j : Nat} {t' : TypeId} {d : DataW H}
    (ht : (fs.toList.map (·.type))[j]? = some t') (hd : parts[j]? = some d) : Light P t' d :=
  fun n hn => h n (by simp only [DataW.weights, hs]; exact DataW.weights_mem_each ht hd n hn)

theorem light_bytes {t e : TypeId} {d : DataW H} {cap : Nat} (ht : P.underlying t = some (.slice e)) (hb : P.bytesOf e = 1) (h : Light P t d)
    (hd : (d = .nil ∧ cap = 0) ∨ ∃ elems rest, d = .slice elems rest ∧ elems.length + rest.length = cap) : cap ≤ 140737488351232 := by
  rcases hd with ⟨_, rfl⟩ | ⟨elems, rest, rfl, hc⟩
  · omega
  · have := h ((elems.length + rest.length) * P.bytesOf e) (by simp [DataW.weights, ht])
    rw [hb, hc] at this
    simpa [reachBytes] using this

theorem light_string {t : TypeId} {l : List UInt8} (h : Light (H := H) P t (.lit (.string l))) : l.length ≤ 140737488351232 := by
  have := h l.length (by simp [DataW.weights])
  simpa [reachBytes] using this
end

theorem open_str {H : Type} {enc : TypeId × Value → H} {P : Program} {w : World} {held : Bool} {t : TypeId} {fuel : Nat} {v : Value} {y : DataW H × List MemPlace} (ht : P.underlying t = some .string)
    (h : DataW.trod enc P w 0 (fun _ => true) held fuel t [v] = some y) : ∃ s : ByteArray, v = .string s ∧ y.1 = .lit (.string s.data.toList) := by
  obtain ⟨s, h1, h2, _⟩ := DataW.trod_string ht h
  exact ⟨s, by simpa using h1, by rw [h2]⟩
theorem open_num {H : Type} {enc : TypeId × Value → H} {P : Program} {w : World} {held : Bool} {t : TypeId} {k : IntKind} {fuel : Nat} {v : Value} {y : DataW H × List MemPlace} (ht : P.underlying t = some (.int k))
    (h : DataW.trod enc P w 0 (fun _ => true) held fuel t [v] = some y) : ∃ a, v = .int k a ∧ (Lit.int k a).wf = true := by
  obtain ⟨a, h1, h2, h3⟩ := DataW.trod_int ht h
  exact ⟨a, by simpa using h1, h3⟩
theorem open_bit {H : Type} {enc : TypeId × Value → H} {P : Program} {w : World} {held : Bool} {t : TypeId} {fuel : Nat} {v : Value} {y : DataW H × List MemPlace} (ht : P.underlying t = some .bool)
    (h : DataW.trod enc P w 0 (fun _ => true) held fuel t [v] = some y) : ∃ a, v = .bool a := by
  obtain ⟨a, h1, h2⟩ := DataW.trod_bool ht h
  exact ⟨a, by simpa using h1⟩

end Go.Proofs.YtnpeankmmojebaaGreatDoor
