import Derived.Test.YtnpeankmmojebaaDoorJBI
import Derived.Laws.Rows
import Derived.Test.YtnpeankmmojebaaDoorSeZ
import Derived.Deep.CutBlock
/- Layer 11: the law's write skew. -/
set_option linter.unusedVariables false
namespace Go.Proofs.YtnpeankmmojebaaDoor
set_option maxRecDepth 100000
set_option maxRecDepth 100000
open Go.RowKit

def itX : ByteArray := ⟨#[120]⟩
def itY : ByteArray := ⟨#[121]⟩
def skewC : List Int := [1, 2]
def skewA : List Ac := [⟨1, false, itX, 0⟩, ⟨1, false, itY, 0⟩, ⟨2, false, itX, 0⟩, ⟨2, false, itY, 0⟩, ⟨1, true, itX, 0⟩, ⟨2, true, itY, 0⟩]
theorem sb_block {w : World} {g : Nat} {cs : List Value} {t : TypeId} (h : w.heap[g]? = some (.cells cs.toArray t (0, 0))) (h1 : ∀ u ∈ cs, u.oneCell' = true) : SB w (some ⟨g, 0, none⟩) cs.length cs :=
  ⟨rfl, h1, fun _ => ⟨g, 0, rfl, fun j u hj => by
    rw [cell_of_row _ _ _ _ _ _ h, Nat.zero_add]
    simpa using hj⟩⟩
set_option maxHeartbeats 16000000 in
theorem wlSkew (w : World) : Calls Tryd.prog 22 #[] w fun e w' => ∃ A c B d, e = .returned (histV A 2 c B 6 d) ∧ Hist w' A 2 c B 6 d skewC skewA ∧ Below w.heap.size w w' := by
  obtain ⟨X1, hX1⟩ : ∃ X, w.alloc (.cells #[.slice (some ⟨w.heap.size + 1, 0, none⟩) 2 2, .slice (some ⟨w.heap.size + 1 + 1, 0, none⟩) 6 6] 25) = X := ⟨_, rfl⟩
  obtain ⟨X2, hX2⟩ : ∃ X, X1.alloc (.cells #[.int .i64 1, .int .i64 2] 3) = X := ⟨_, rfl⟩
  obtain ⟨X3, hX3⟩ : ∃ X, X2.alloc (.cells #[.int .i64 1, .bool false, .string ⟨#[120]⟩, .int .i64 0, .int .i64 1, .bool false, .string ⟨#[121]⟩, .int .i64 0, .int .i64 2, .bool false, .string ⟨#[120]⟩, .int .i64 0, .int .i64 2, .bool false, .string ⟨#[121]⟩, .int .i64 0, .int .i64 1, .bool true, .string ⟨#[120]⟩, .int .i64 0, .int .i64 2, .bool true, .string ⟨#[121]⟩, .int .i64 0] 39) = X := ⟨_, rfl⟩
  have s1 : X1.heap.size = w.heap.size + 1 := by have := congrArg (fun W => W.heap.size) hX1; simpa using this.symm
  have s2 : X2.heap.size = w.heap.size + 1 + 1 := by have := congrArg (fun W => W.heap.size) hX2; rw [← s1]; simpa using this.symm
  have b1 : Below w.heap.size w X1 := hX1 ▸ alloc_below11 w _
  have b2 : Below X1.heap.size X1 X2 := hX2 ▸ alloc_below11 X1 _
  have b3 : Below X2.heap.size X2 X3 := hX3 ▸ alloc_below11 X2 _
  have r1 : X3.heap[w.heap.size]? = some (.cells #[.slice (some ⟨w.heap.size + 1, 0, none⟩) 2 2, .slice (some ⟨w.heap.size + 1 + 1, 0, none⟩) 6 6] 25 (0, 0)) :=
    (b3.block _ (by omega)).trans ((b2.block _ (by omega)).trans (hX1 ▸ heap_alloc_new w _))
  have r2 : X3.heap[w.heap.size + 1]? = some (.cells (numC skewC).toArray 3 (0, 0)) := by
    have : X2.heap[X1.heap.size]? = some (.cells (numC skewC).toArray 3 (0, 0)) := hX2 ▸ heap_alloc_new X1 _
    rw [s1] at this
    exact (b3.block _ (by omega)).trans this
  have r3 : X3.heap[w.heap.size + 1 + 1]? = some (.cells (cellsE acC skewA).toArray 39 (0, 0)) := by
    have : X3.heap[X2.heap.size]? = some (.cells (cellsE acC skewA).toArray 39 (0, 0)) := hX3 ▸ heap_alloc_new X2 _
    rw [s2] at this
    exact this
  have HW := Lib.hid (show ((w.alloc (.cells #[.slice (some ⟨w.heap.size + 1, 0, none⟩) 2 2, .slice (some ⟨w.heap.size + 1 + 1, 0, none⟩) 6 6] 25)).alloc (.cells #[.int .i64 1, .int .i64 2] 3)).alloc (.cells #[.int .i64 1, .bool false, .string ⟨#[120]⟩, .int .i64 0, .int .i64 1, .bool false, .string ⟨#[121]⟩, .int .i64 0, .int .i64 2, .bool false, .string ⟨#[120]⟩, .int .i64 0, .int .i64 2, .bool false, .string ⟨#[121]⟩, .int .i64 0, .int .i64 1, .bool true, .string ⟨#[120]⟩, .int .i64 0, .int .i64 2, .bool true, .string ⟨#[121]⟩, .int .i64 0] 39) = X3 by rw [hX1, hX2, hX3])
  have R1 := Lib.hid r1
  have R2 := Lib.hid r2
  have R3 := Lib.hid r3
  have BB := Lib.hid (below_next (below_next b1 b2) b3)
  clear hX1 hX2 hX3 s1 s2 b1 b2 b3 r1 r2 r3
  go_enter Tryd.func22, Tryd.ntmps22
  go_wp2
  rw [HW.out]
  refine bodyPost_ret (results_cell_row rfl _ _ w.heap.size 25 _ (0, 0) _ rfl R1.out Tryd.underlying25 rfl (by kernel_rfl)) rfl ?_
  refine ⟨_, _, _, _, rfl, ⟨rfl, rfl, sb_block R2.out (numC_one _), sb_block R3.out (cellsE_one acC_one _), ?_, ?_, by simp [maxLen], by simp [maxLen]⟩, BB.out⟩
  · intro x hx
    simp [skewC] at hx
    rcases hx with rfl | rfl <;> (unfold wfI; decide)
  · intro a ha
    simp [skewA] at ha
    rcases ha with rfl | rfl | rfl | rfl | rfl | rfl <;> exact ⟨by unfold wfI; decide, by unfold wfI; decide, by decide⟩
end Go.Proofs.YtnpeankmmojebaaDoor

/- Layer 11: slices.Equal where both are one. -/
namespace Go.Proofs.YtnpeankmmojebaaDoor
set_option maxRecDepth 100000
set_option maxRecDepth 100000
open Go.RowKit

set_option maxHeartbeats 2000000 in
theorem weqI {w : World} {A B : Option Addr} {c1 c2 : Nat} {l : List Int} (h1 : SB w A l.length (numC l)) (h2 : SB w B l.length (numC l)) (hn : l.length ≤ 10000000) :
    Calls Tryd.prog 23 #[.slice A l.length c1, .slice B l.length c2] w fun e w' => e = .returned (.bool true) ∧ Below w.heap.size w w' := by
  have H1 := Lib.hid h1
  have H2 := Lib.hid h2
  have HN := Lib.hid hn
  clear h1 h2 hn
  go_enter Tryd.func23, Tryd.ntmps23
  go_wp2
  go_loopw [13] (fun i' wr => ∃ j : Nat, i' = .int .i64 (j : Nat) ∧ j ≤ l.length ∧ Below w.heap.size w wr) (fun i' _ => l.length - (intOf i').toNat)
  case atStart => exact ⟨0, rfl, Nat.zero_le _, Below.refl _ _⟩
  case round =>
    rename World => wr
    obtain ⟨j, rfl, hj, hb⟩ := hrel
    by_cases hlt : j < l.length
    · obtain ⟨x, hx⟩ : ∃ x, l[j]? = some x := ⟨_, List.getElem?_eq_getElem hlt⟩
      obtain ⟨g, o, rfl, x0⟩ := (H1.out.gw hb).at_ (numC_at hx)
      obtain ⟨g2, o2, rfl, y0⟩ := (H2.out.gw hb).at_ (numC_at hx)
      have i1 : (j : Int) < (l.length : Int) := by omega
      have l1 : (j : Int) ≤ 10000000 := by have := HN.out; omega
      have HLT := Lib.hid hlt
      have HB := Lib.hid hb
      clear hj hlt hx hb
      go_upto_region 6 with fail
      go_region
      go_wp2
      go_roundw
      case rel => exact ⟨j + 1, by go_num, HLT.out, HB.out.drew⟩
      case measure => have := HLT.out; simp [intOf]; omega
    · have hje : j = l.length := by omega
      subst hje
      have i1 : ¬ (l.length : Int) < (l.length : Int) := by omega
      have HB := Lib.hid hb
      clear hj hlt hb
      go_wp2
      go_ret
      exact ⟨rfl, HB.out⟩

end Go.Proofs.YtnpeankmmojebaaDoor

/- Layer 11: the law's live. -/
namespace Go.Proofs.YtnpeankmmojebaaDoor
set_option maxRecDepth 100000
set_option maxRecDepth 100000
open Go.RowKit

theorem skew_right : Right skewC skewA := okH_iff.1 (by decide)
theorem skew_graph : graphP skewC skewA = [⟨1, 2, 3⟩, ⟨2, 1, 3⟩] := by decide
theorem skew_rise : riseP skewC = [1, 2] := by decide
theorem skew_edges : edgesP (riseP skewC) (graphP skewC skewA) = [(0, 1), (1, 0)] := by rw [skew_graph, skew_rise]; decide
theorem skew_round : RdIs skewC skewA [1, 2] := by
  have hE := skew_right.edOk
  refine ⟨[0, 1], ?_, by simp [skewC], by rw [skew_rise]; rfl⟩
  rw [skew_edges] at hE ⊢
  have h2 : ∀ r j, Way [(0, 1), (1, 0)] j r r → 2 ≤ j := fun r j hw => by
    have h0 := hw.pos
    rcases Nat.lt_or_ge 1 j with h | h
    · exact h
    · have : j = 1 := by omega
      subst this
      cases hw with
      | one he => exact absurd rfl (hE.ne _ he)
      | cons he hw => have := hw.pos; omega
  refine .inr ⟨0, 2, by simp [skewC], .cons (b := 1) (by simp) (.one (by simp)), fun r j _ hw => h2 r j hw, fun r hr => absurd hr (Nat.not_lt_zero _), rfl, rfl, fun i x y hi hx hy => ?_⟩
  have hi0 : i = 0 := by omega
  subst hi0
  have hx' : x = 0 := by simpa using hx.symm
  have hy' : y = 1 := by simpa using hy.symm
  subst hx' hy'
  refine ⟨⟨by simp, .one (by simp), fun i hw => hw.pos⟩, fun z hz _ => ?_⟩
  simp at hz
  omega
set_option maxHeartbeats 16000000 in
theorem wlLive (w : World) : Calls Tryd.prog 7 #[] w fun e w' => e = .returned (.bool true) ∧ Below w.heap.size w w' := by
  have CS := Lib.hid (wlSkew w)
  go_enter Tryd.func7, Tryd.ntmps7
  go_upto_region 2 with (first
    | (go_at_call 22; go_loud (refine CS.out.mono ?_; rintro e w1 ⟨sA, sc, sB, sd, rfl, h1, b1⟩; have B1 := Lib.hid b1; have CR := Lib.hid (wsRoundOk h1 skew_right); clear h1 b1))
    | (go_at_call 6; go_loud (refine CR.out.mono ?_; rintro e w2 ⟨v2, rfl, l2, r2, s2, b2⟩; have e2 := r2.unique skew_round; subst e2; have B2 := Lib.hid b2; obtain ⟨vA, vc, rfl, sb2, -⟩ := s2.form; have CE := Lib.hid (fun W (hW : Below w2.heap.size w2 W) (g : Nat) (hg : W.heap[g]? = some (.cells (numC [1, 2]).toArray 3 (0, 0))) => weqI (c1 := vc) (c2 := 2) (l := [1, 2]) (sb2.gw hW) (sb_block hg (numC_one _)) (by simp)); clear r2 s2 b2 sb2)))
  have CX := Lib.hid (show Calls Tryd.prog 23 #[.slice vA 2 vc, .slice (some ⟨w2.heap.size, 0, none⟩) 2 2] (w2.alloc (.cells #[.int .i64 1, .int .i64 2] 3)) fun e w' => e = .returned (.bool true) ∧ Below (w2.alloc (.cells #[.int .i64 1, .int .i64 2] 3)).heap.size (w2.alloc (.cells #[.int .i64 1, .int .i64 2] 3)) w' from CE.out _ (alloc_below11 w2 _) _ (heap_alloc_new w2 _))
  go_wp2_with (go_at_call 23; go_loud (refine CX.out.mono ?_; rintro e w3 ⟨rfl, b3⟩; have B3 := Lib.hid b3; clear b3))
  go_ret
  exact ⟨rfl, below_next (below_next (below_next B1.out B2.out) (alloc_below11 w2 _)) B3.out⟩
end Go.Proofs.YtnpeankmmojebaaDoor

/- Layer 11: the law's right. -/
namespace Go.Proofs.YtnpeankmmojebaaDoor
set_option maxRecDepth 100000
set_option maxRecDepth 100000
open Go.RowKit Go.Shelf

attribute [local go_sem] Oper.semAt_some
theorem results_bools {fn : Func} {p q : Tmp} (h : fn.results = #[.cell p 4, .cell q 4]) (tmps : Array Value) (w : World) (g1 g2 : Nat) (hp : tmps.getD p undef = .pointer (some ⟨g1, 0, none⟩)) (hq : tmps.getD q undef = .pointer (some ⟨g2, 0, none⟩)) (x y : Bool) (h1 : w.cell? ⟨g1, 0, none⟩ = some (.bool x)) (h2 : w.cell? ⟨g2, 0, none⟩ = some (.bool y)) :
    (results fn tmps).run Tryd.prog w = .ok (.tuple #[.bool x, .bool y]) w := by
  have hp' : tmps[p]?.getD undef = .pointer (some ⟨g1, 0, none⟩) := by simpa using hp
  have hq' : tmps[q]?.getD undef = .pointer (some ⟨g2, 0, none⟩) := by simpa using hq
  have l1 : (loadVar 4 ⟨g1, 0, none⟩).run Tryd.prog w = .ok (.bool x) w := by go_simp
  have l2 : (loadVar 4 ⟨g2, 0, none⟩).run Tryd.prog w = .ok (.bool y) w := by go_simp
  simp [results, h, hp', hq', asAddr, l1, l2, Result.andThen]
section
variable {w : World} {A B : Option Addr} {n c m d : Nat} {cs : List Int} {ac : List Ac}
/-- The world in which the law's right begins. -/
structure RiAt (w X : World) (A : Option Addr) (n c : Nat) (B : Option Addr) (m d : Nat) (cs : List Int) (ac : List Ac) : Prop where
  eq : ((w.alloc (.cells #[.slice A n c, .slice B m d] 25)).alloc (.cells #[.bool false] 4)).alloc (.cells #[.bool false] 4) = X
  h : Hist X A n c B m d cs ac
  x0 : X.cell? ⟨w.heap.size, 0, none⟩ = some (.slice A n c)
  x1 : X.cell? ⟨w.heap.size, 1, none⟩ = some (.slice B m d)
  r1 : X.heap[w.heap.size + 1]? = some (.cells #[.bool false] 4 (0, 0))
  r2 : X.heap[w.heap.size + 1 + 1]? = some (.cells #[.bool false] 4 (0, 0))
  sz : X.heap.size = w.heap.size + 1 + 1 + 1
  below : Below w.heap.size w X
theorem Hist.ri (h : Hist w A n c B m d cs ac) : ∃ X, RiAt w X A n c B m d cs ac := by
  obtain ⟨W0, hB⟩ := h.box
  obtain ⟨X1, hX1⟩ : ∃ X, W0.alloc (.cells #[.bool false] 4) = X := ⟨_, rfl⟩
  obtain ⟨X2, hX2⟩ : ∃ X, X1.alloc (.cells #[.bool false] 4) = X := ⟨_, rfl⟩
  have s0 : W0.heap.size = w.heap.size + 1 := by have := congrArg (fun W => W.heap.size) hB.eq; simpa using this.symm
  have s1 : X1.heap.size = W0.heap.size + 1 := by have := congrArg (fun W => W.heap.size) hX1; simpa using this.symm
  have s2 : X2.heap.size = X1.heap.size + 1 := by have := congrArg (fun W => W.heap.size) hX2; simpa using this.symm
  have b1 : Below W0.heap.size W0 X1 := hX1 ▸ alloc_below11 W0 _
  have b2 : Below X1.heap.size X1 X2 := hX2 ▸ alloc_below11 X1 _
  have r1 : X1.heap[W0.heap.size]? = some (.cells #[.bool false] 4 (0, 0)) := hX1 ▸ heap_alloc_new W0 _
  have r2 : X2.heap[X1.heap.size]? = some (.cells #[.bool false] 4 (0, 0)) := hX2 ▸ heap_alloc_new X1 _
  rw [s0] at r1 s1
  rw [s1] at r2 s2
  exact ⟨X2, by rw [hB.eq, hX1, hX2], (hB.h.gw b1).gw b2, keep_below (keep_below hB.x0 b1) b2, keep_below (keep_below hB.x1 b1) b2, (b2.block _ (by omega)).trans r1, r2, s2, below_next (below_next hB.below b1) b2⟩
end
section
variable {w : World} {A B : Option Addr} {n c m d : Nat} {cs : List Int} {ac : List Ac}
end
end Go.Proofs.YtnpeankmmojebaaDoor

/- Layer 11: the reference's Sorted. -/
namespace Go.Proofs.YtnpeankmmojebaaDoor
set_option maxRecDepth 100000
set_option maxRecDepth 100000
open Go.RowKit

theorem plN_stop11 {l : List Int} {x : Int} {j : Nat} (h1 : ∀ i a, i < j → l[i]? = some a → a < x) (h2 : j ≤ l.length) (h3 : ∀ a, l[j]? = some a → ¬ a < x) : plN l x = j := by
  rcases Nat.lt_trichotomy (plN l x) j with h | h | h
  · obtain ⟨a, ha⟩ : ∃ a, l[plN l x]? = some a := ⟨_, List.getElem?_eq_getElem (by omega)⟩
    exact absurd (h1 _ a h ha) (plN_at l x a ha)
  · exact h
  · have hj : j < l.length := by have := plN_le l x; omega
    obtain ⟨a, ha⟩ : ∃ a, l[j]? = some a := ⟨_, List.getElem?_eq_getElem hj⟩
    exact absurd (plN_below l x j a h ha) (h3 a ha)
theorem numC_take (l : List Int) (k : Nat) : numC (l.take k) = (numC l).take k := by simp [numC, List.map_take]
theorem numC_drop (l : List Int) (k : Nat) : numC (l.drop k) = (numC l).drop k := by simp [numC, List.map_drop]
theorem rise_ins {cs : List Int} (hd : cs.Nodup) {j : Nat} {x : Int} (hx : cs[j]? = some x) : riseP (cs.take (j + 1)) = (riseP (cs.take j)).take (plN (riseP (cs.take j)) x) ++ [x] ++ (riseP (cs.take j)).drop (plN (riseP (cs.take j)) x) := by
  rw [rise_take hx]
  unfold insN
  rw [if_neg]
  intro h
  have hm := ((rise_is (cs.take j)).2 x).1 (List.mem_of_getElem? h)
  obtain ⟨i, hi⟩ := List.mem_iff_getElem?.1 hm
  obtain ⟨hl, e⟩ := List.getElem?_eq_some_iff.1 hi
  have hl2 : i < j := by rw [List.length_take] at hl; omega
  rw [List.getElem?_take_of_lt hl2] at hi
  have h1 := idx_of hd hi
  have h2 := idx_of hd hx
  omega
end Go.Proofs.YtnpeankmmojebaaDoor
