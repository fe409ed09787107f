/- Layer 11: the net of a right history, plainly. -/
import Derived.Test.YtbmgeobmmpaghaaGreatDoorKIX
import Derived.Test.YtbmgeobmmpaghaaGreatDoorSeF
import Derived.Test.YtbmgeobmmpaghaaGreatDoorSeT
set_option linter.unusedVariables false
namespace Go.Proofs.YtbmgeobmmpaghaaGreatDoor
set_option maxRecDepth 100000

theorem idx_lt {ns : List Int} (h : ns.Pairwise (ltN · · = true)) {x y : Int} (hx : x ∈ ns) (hy : y ∈ ns) : ns.idxOf x < ns.idxOf y ↔ x < y := by
  have e1 := List.idxOf_lt_length_of_mem hx
  have e2 := List.idxOf_lt_length_of_mem hy
  have key : ∀ a b : Int, a ∈ ns → b ∈ ns → ns.idxOf a < ns.idxOf b → a < b := fun a b ha hb hlt => by
    have h1 := List.idxOf_lt_length_of_mem ha
    have h2 := List.idxOf_lt_length_of_mem hb
    have := List.pairwise_iff_getElem.1 h _ _ h1 h2 hlt
    rw [List.getElem_idxOf, List.getElem_idxOf] at this
    simpa [ltN] using this
  constructor
  · exact key x y hx hy
  · intro hxy
    rcases Nat.lt_trichotomy (ns.idxOf x) (ns.idxOf y) with k | k | k
    · exact k
    · exfalso
      have h1 := List.getElem_idxOf e1
      have h2 := List.getElem_idxOf e2
      have : x = y := by
        rw [← h1, ← h2]
        simp only [k]
      omega
    · have := key y x hy hx k; omega
section
variable {cs : List Int} {ac : List Ac}
theorem Right.edOk (h : Right cs ac) : EdOk (edgesP (riseP cs) (graphP cs ac)) cs.length := by
  have hl : (riseP cs).length = cs.length := by rw [← sorted_is h.nd, List.length_mergeSort]
  have hr := (rise_is cs).1
  have hm := (rise_is cs).2
  constructor
  · intro e he
    obtain ⟨d, hd, rfl⟩ := List.mem_map.1 he
    obtain ⟨h1, h2, -⟩ := h.graph_mem hd
    rw [← hl]
    exact ⟨List.idxOf_lt_length_of_mem ((hm _).2 h1), List.idxOf_lt_length_of_mem ((hm _).2 h2)⟩
  · intro e he k
    obtain ⟨d, hd, rfl⟩ := List.mem_map.1 he
    obtain ⟨h1, h2, h3⟩ := h.graph_mem hd
    have i1 := idx_lt hr ((hm _).2 h1) ((hm _).2 h2)
    have i2 := idx_lt hr ((hm _).2 h2) ((hm _).2 h1)
    unfold edgeP at k
    dsimp only at k
    rw [k] at i1 i2
    have := fun q => Nat.lt_irrefl _ (i1.2 q)
    have := fun q => Nat.lt_irrefl _ (i2.2 q)
    exact h3 (by omega)
theorem Right.outs_rise (h : Right cs ac) (x : Nat) : (outsP (edgesP (riseP cs) (graphP cs ac)) x).Pairwise (· ≤ ·) := by
  have hr := (rise_is cs).1
  have hm := (rise_is cs).2
  have key : (graphP cs ac).Pairwise fun a b => (edgeP (riseP cs) a).1 = (edgeP (riseP cs) b).1 → (edgeP (riseP cs) a).2 ≤ (edgeP (riseP cs) b).2 := by
    refine (graph_is cs ac).1.imp_of_mem fun {a b} ha hb hab e => ?_
    obtain ⟨a1, a2, -⟩ := h.graph_mem ha
    obtain ⟨b1, b2, -⟩ := h.graph_mem hb
    have i1 := idx_lt hr ((hm _).2 a1) ((hm _).2 b1)
    have i2 := idx_lt hr ((hm _).2 b1) ((hm _).2 a1)
    unfold edgeP at e ⊢
    dsimp only at e ⊢
    rw [e] at i1 i2
    have := fun q => Nat.lt_irrefl _ (i1.2 q)
    have := fun q => Nat.lt_irrefl _ (i2.2 q)
    have hfr : a.fr = b.fr := by omega
    have hto : a.to ≤ b.to := by
      unfold lessD at hab
      rw [if_pos hfr] at hab
      split at hab
      · omega
      · have := of_decide_eq_true hab; omega
    rcases Int.lt_or_eq_of_le hto with k | k
    · exact Nat.le_of_lt ((idx_lt hr ((hm _).2 a2) ((hm _).2 b2)).2 k)
    · rw [k]; exact Nat.le_refl _
  unfold outsP edgesP
  rw [List.pairwise_map]
  have h1 := (List.pairwise_map (f := edgeP (riseP cs)) (R := fun e e' => e.1 = e'.1 → e.2 ≤ e'.2)).2 key
  have h2 := h1.filter (fun e => decide (e.1 = x))
  refine h2.imp_of_mem fun {a b} ha hb k => k ?_
  have := of_decide_eq_true (List.mem_filter.1 ha).2
  have := of_decide_eq_true (List.mem_filter.1 hb).2
  omega
theorem Right.edges_len (h : Right cs ac) : (edgesP (riseP cs) (graphP cs ac)).length ≤ 8192 := by
  unfold edgesP
  rw [List.length_map]
  have := graph_len cs ac ac []
  unfold graphP
  simp at this
  have := h.la
  omega
end
/-- The round of a history, as numbers. -/
def RdIs (cs : List Int) (ac : List Ac) (l : List Int) : Prop := ∃ r, RoundIs (edgesP (riseP cs) (graphP cs ac)) cs.length r ∧ (∀ x ∈ r, x < cs.length) ∧ l = r.map fun x => (riseP cs).getD x 0
theorem RdIs.unique {cs : List Int} {ac : List Ac} {l m : List Int} (h : RdIs cs ac l) (k : RdIs cs ac m) : l = m := by
  obtain ⟨r, h1, -, rfl⟩ := h
  obtain ⟨q, k1, -, rfl⟩ := k
  rw [h1.unique k1]
end Go.Proofs.YtbmgeobmmpaghaaGreatDoor
namespace Go.Proofs.YtbmgeobmmpaghaaGreatDoor
set_option maxRecDepth 100000
open Go.RowKit

section
variable {w : World} {A B : Option Addr} {n c m d : Nat} {cs : List Int} {ac : List Ac}
theorem wsRoundOf {gb : Nat} (h : NetAt w gb n (riseP cs) (edgesP (riseP cs) (graphP cs ac))) (hR : Right cs ac) (hn : cs.length = n) :
    Calls Tryz.prog 46 #[.pointer (some ⟨gb, 0, none⟩)] w fun e w' => ∃ v, e = .returned v ∧ ∃ l, RdIs cs ac l ∧ SO seI w.heap.size w' v l.length (numC l) ∧ Below w.heap.size w w' := by
  obtain ⟨go, gi, base, An, cn, vo, vi, hb⟩ := h
  subst hn
  refine (wsRound hb hR.edOk hR.edges_len hR.lc hR.outs_rise).mono ?_
  rintro e w' ⟨v, rfl, l, h1, h2, h3, h4⟩
  exact ⟨v, rfl, _, ⟨l, h1, h2, rfl⟩, by rw [List.length_map]; exact h3, h4⟩
set_option maxHeartbeats 16000000 in
theorem wsRoundErr (h : Hist w A n c B m d cs ac) (hR : ¬ Right cs ac) :
    Calls Tryz.prog 20 #[histV A n c B m d] w fun e w' => e = .returned (.tuple #[.slice none 0 0, .int .i64 110]) ∧ Below w.heap.size w w' := by
  obtain ⟨W0, hB⟩ := h.box
  have HB := Lib.hid hB
  have HW := Lib.hid hB.eq
  have x0 := hB.x0
  have x1 := hB.x1
  have CC := Lib.hid (wsCheck hB.h)
  rw [errH_not hR] at CC
  unfold histV at CC ⊢
  clear h hB hR
  go_enter Tryz.func20, Tryz.ntmps20
  go_upto_region 1 with fail
  rw [HW.out]
  go_wp2_with (go_at_call 30; go_loud (refine CC.out.mono ?_; rintro e w1 ⟨rfl, b1⟩; have B1 := Lib.hid b1; clear b1))
  go_ret2
  exact ⟨rfl, below_next HB.out.below B1.out⟩
set_option maxHeartbeats 16000000 in
theorem wsGraphErr (h : Hist w A n c B m d cs ac) (hR : ¬ Right cs ac) :
    Calls Tryz.prog 10 #[histV A n c B m d] w fun e w' => e = .returned (.tuple #[.slice none 0 0, .int .i64 110]) ∧ Below w.heap.size w w' := by
  obtain ⟨W0, hB⟩ := h.box
  have HB := Lib.hid hB
  have HW := Lib.hid hB.eq
  have x0 := hB.x0
  have x1 := hB.x1
  have CC := Lib.hid (wsCheck hB.h)
  rw [errH_not hR] at CC
  unfold histV at CC ⊢
  clear h hB hR
  go_enter Tryz.func10, Tryz.ntmps10
  go_upto_region 1 with fail
  rw [HW.out]
  go_wp2_with (go_at_call 30; go_loud (refine CC.out.mono ?_; rintro e w1 ⟨rfl, b1⟩; have B1 := Lib.hid b1; clear b1))
  go_ret2
  exact ⟨rfl, below_next HB.out.below B1.out⟩
set_option maxHeartbeats 16000000 in
theorem wsPivErr (h : Hist w A n c B m d cs ac) (hR : ¬ Right cs ac) :
    Calls Tryz.prog 11 #[histV A n c B m d] w fun e w' => e = .returned (.tuple #[.slice none 0 0, .int .i64 110]) ∧ Below w.heap.size w w' := by
  obtain ⟨W0, hB⟩ := h.box
  have HB := Lib.hid hB
  have HW := Lib.hid hB.eq
  have x0 := hB.x0
  have x1 := hB.x1
  have CC := Lib.hid (wsCheck hB.h)
  rw [errH_not hR] at CC
  unfold histV at CC ⊢
  clear h hB hR
  go_enter Tryz.func11, Tryz.ntmps11
  go_upto_region 1 with fail
  rw [HW.out]
  go_wp2_with (go_at_call 30; go_loud (refine CC.out.mono ?_; rintro e w1 ⟨rfl, b1⟩; have B1 := Lib.hid b1; clear b1))
  go_ret2
  exact ⟨rfl, below_next HB.out.below B1.out⟩
set_option maxHeartbeats 16000000 in
theorem wsOrderErr (h : Hist w A n c B m d cs ac) (hR : ¬ Right cs ac) :
    Calls Tryz.prog 16 #[histV A n c B m d] w fun e w' => e = .returned (.tuple #[.slice none 0 0, .bool false, .int .i64 110]) ∧ Below w.heap.size w w' := by
  obtain ⟨W0, hB⟩ := h.box
  have HB := Lib.hid hB
  have HW := Lib.hid hB.eq
  have x0 := hB.x0
  have x1 := hB.x1
  have CC := Lib.hid (wsCheck hB.h)
  rw [errH_not hR] at CC
  unfold histV at CC ⊢
  clear h hB hR
  go_enter Tryz.func16, Tryz.ntmps16
  go_upto_region 1 with fail
  rw [HW.out]
  go_wp2_with (go_at_call 30; go_loud (refine CC.out.mono ?_; rintro e w1 ⟨rfl, b1⟩; have B1 := Lib.hid b1; clear b1))
  go_ret3
  exact ⟨rfl, below_next HB.out.below B1.out⟩
set_option maxHeartbeats 16000000 in
theorem wsOrdersErr (h : Hist w A n c B m d cs ac) (hR : ¬ Right cs ac) :
    Calls Tryz.prog 19 #[histV A n c B m d] w fun e w' => e = .returned (.func (.func 43) #[] #[]) ∧ Below w.heap.size w w' := by
  obtain ⟨W0, hB⟩ := h.box
  have HB := Lib.hid hB
  have HW := Lib.hid hB.eq
  have x0 := hB.x0
  have x1 := hB.x1
  have CC := Lib.hid (wsCheck hB.h)
  rw [errH_not hR] at CC
  unfold histV at CC ⊢
  clear h hB hR
  go_enter Tryz.func19, Tryz.ntmps19
  go_upto_region 1 with fail
  rw [HW.out]
  go_wp2_with (go_at_call 30; go_loud (refine CC.out.mono ?_; rintro e w1 ⟨rfl, b1⟩; have B1 := Lib.hid b1; clear b1))
  go_ret
  exact ⟨rfl, below_next HB.out.below B1.out⟩
set_option maxHeartbeats 16000000 in
theorem wsSerialErr (h : Hist w A n c B m d cs ac) (hR : ¬ Right cs ac) (o : Value) :
    Calls Tryz.prog 22 #[histV A n c B m d, o] w fun e w' => e = .returned (.tuple #[.bool false, .int .i64 110]) ∧ Below w.heap.size w w' := by
  obtain ⟨W0, hB⟩ := h.box
  have HB := Lib.hid hB
  have HW := Lib.hid hB.eq
  have x0 := hB.x0
  have x1 := hB.x1
  have CC := Lib.hid (wsCheck hB.h)
  rw [errH_not hR] at CC
  unfold histV at CC ⊢
  clear h hB hR
  go_enter Tryz.func22, Tryz.ntmps22
  go_upto_region 1 with fail
  rw [HW.out]
  go_wp2_with (go_at_call 30; go_loud (refine CC.out.mono ?_; rintro e w1 ⟨rfl, b1⟩; have B1 := Lib.hid b1; clear b1))
  go_ret2
  exact ⟨rfl, below_next HB.out.below B1.out⟩
set_option maxHeartbeats 16000000 in
theorem wsRoundOk (h : Hist w A n c B m d cs ac) (hR : Right cs ac) :
    Calls Tryz.prog 20 #[histV A n c B m d] w fun e w' => ∃ v, e = .returned (.tuple #[v, .int .i64 0]) ∧ ∃ l, RdIs cs ac l ∧ SO seI w.heap.size w' v l.length (numC l) ∧ Below w.heap.size w w' := by
  obtain ⟨W0, hB⟩ := h.box
  have HB := Lib.hid hB
  have HW := Lib.hid hB.eq
  have x0 := hB.x0
  have x1 := hB.x1
  have CC := Lib.hid (wsCheck hB.h)
  rw [errH_ok hR] at CC
  have HR := Lib.hid hR
  have HCL := Lib.hid h.cl
  unfold histV at CC ⊢
  clear h hB hR
  go_enter Tryz.func20, Tryz.ntmps20
  go_upto_region 1 with fail
  rw [HW.out]
  go_upto_region 4 with (go_at_call 30; go_loud (refine CC.out.mono ?_; rintro e w1 ⟨rfl, b1⟩; have B1 := Lib.hid b1; have CN := Lib.hid (wsNewNet (HB.out.h.gw b1) HR.out); have y0 := keep_below x0 b1; have y1 := keep_below x1 b1; clear b1))
  unfold histV at CN
  go_wp2_with (first
    | (go_at_call 37; go_loud (refine CN.out.mono ?_; rintro e w2 ⟨gb, rfl, na, b2⟩; have B2 := Lib.hid b2; have CR := Lib.hid (wsRoundOf na HR.out HCL.out); clear na b2))
    | (go_at_call 46; go_loud (refine CR.out.mono ?_; rintro e w3 ⟨v3, rfl, l3, r3, s3, b3⟩; have R3 := Lib.hid r3; have S3 := Lib.hid s3; have B3 := Lib.hid b3; clear r3 s3 b3)))
  go_ret2
  have hb := below_next (below_next HB.out.below B1.out) B2.out
  exact ⟨_, rfl, l3, R3.out, S3.out.lower hb.size, below_next hb B3.out⟩
set_option maxHeartbeats 16000000 in
theorem wsGraphOk (h : Hist w A n c B m d cs ac) (hR : Right cs ac) :
    Calls Tryz.prog 10 #[histV A n c B m d] w fun e w' => ∃ v, e = .returned (.tuple #[v, .int .i64 0]) ∧ SO seD w.heap.size w' v (graphP cs ac).length (cellsE dpC (graphP cs ac)) ∧ Below w.heap.size w w' := by
  obtain ⟨W0, hB⟩ := h.box
  have HB := Lib.hid hB
  have HW := Lib.hid hB.eq
  have x0 := hB.x0
  have x1 := hB.x1
  have CC := Lib.hid (wsCheck hB.h)
  rw [errH_ok hR] at CC
  have HR := Lib.hid hR
  unfold histV at CC ⊢
  clear h hB hR
  go_enter Tryz.func10, Tryz.ntmps10
  go_upto_region 1 with fail
  rw [HW.out]
  go_upto_region 4 with (go_at_call 30; go_loud (refine CC.out.mono ?_; rintro e w1 ⟨rfl, b1⟩; have B1 := Lib.hid b1; have CN := Lib.hid (wsDeps (HB.out.h.gw b1) HR.out); have y0 := keep_below x0 b1; have y1 := keep_below x1 b1; clear b1))
  unfold histV at CN
  go_wp2_with (go_at_call 32; go_loud (refine CN.out.mono ?_; rintro e w2 ⟨v2, rfl, s2, b2⟩; have B2 := Lib.hid b2; have S2 := Lib.hid s2; clear s2 b2))
  go_ret2
  have hb := below_next HB.out.below B1.out
  exact ⟨_, rfl, S2.out.lower hb.size, below_next hb B2.out⟩
end
end Go.Proofs.YtbmgeobmmpaghaaGreatDoor
