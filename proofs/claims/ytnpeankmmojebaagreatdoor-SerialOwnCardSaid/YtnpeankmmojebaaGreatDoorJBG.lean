import Derived.Test.YtnpeankmmojebaaGreatDoorJBF
import Derived.Test.YtnpeankmmojebaaGreatDoorJAR
/- Layer 11: slices.Equal where both are one. -/
set_option linter.unusedVariables false
namespace Go.Proofs.YtnpeankmmojebaaGreatDoor
set_option maxRecDepth 100000
set_option maxRecDepth 100000
open Go.RowKit

set_option maxHeartbeats 2000000 in
theorem weqI {w : World} {A B : Option Addr} {c1 c2 : Nat} {l : List Int} (h1 : SB w A l.length (numC l)) (h2 : SB w B l.length (numC l)) (hn : l.length ≤ 10000000) :
    Calls Tryz.prog 9 #[.slice A l.length c1, .slice B l.length c2] w fun e w' => e = .returned (.bool true) ∧ Below w.heap.size w w' := by
  have H1 := Lib.hid h1
  have H2 := Lib.hid h2
  have HN := Lib.hid hn
  clear h1 h2 hn
  go_enter Tryz.func9, Tryz.ntmps9
  go_wp2
  go_loopw [13] (fun i' wr => ∃ j : Nat, i' = .int .i64 (j : Nat) ∧ j ≤ l.length ∧ Below w.heap.size w wr) (fun i' _ => l.length - (intOf i').toNat)
  case atStart => exact ⟨0, rfl, Nat.zero_le _, Below.refl _ _⟩
  case round =>
    rename World => wr
    obtain ⟨j, rfl, hj, hb⟩ := hrel
    by_cases hlt : j < l.length
    · obtain ⟨x, hx⟩ : ∃ x, l[j]? = some x := ⟨_, List.getElem?_eq_getElem hlt⟩
      obtain ⟨g, o, rfl, x0⟩ := (H1.out.gw hb).at_ (numC_at hx)
      obtain ⟨g2, o2, rfl, y0⟩ := (H2.out.gw hb).at_ (numC_at hx)
      have i1 : (j : Int) < (l.length : Int) := by omega
      have l1 : (j : Int) ≤ 10000000 := by have := HN.out; omega
      have HLT := Lib.hid hlt
      have HB := Lib.hid hb
      clear hj hlt hx hb
      go_upto_region 6 with fail
      go_region
      go_wp2
      go_roundw
      case rel => exact ⟨j + 1, by go_num, HLT.out, HB.out.drew⟩
      case measure => have := HLT.out; simp [intOf]; omega
    · have hje : j = l.length := by omega
      subst hje
      have i1 : ¬ (l.length : Int) < (l.length : Int) := by omega
      have HB := Lib.hid hb
      clear hj hlt hb
      go_wp2
      go_ret
      exact ⟨rfl, HB.out⟩

set_option maxHeartbeats 2000000 in
theorem weqD {w : World} {A B : Option Addr} {c1 c2 : Nat} {l : List Dp} (h1 : SB w A (3 * l.length) (cellsE dpC l)) (h2 : SB w B (3 * l.length) (cellsE dpC l)) (hn : l.length ≤ 10000000) :
    Calls Tryz.prog 19 #[.slice A l.length c1, .slice B l.length c2] w fun e w' => e = .returned (.bool true) ∧ Below w.heap.size w w' := by
  have H1 := Lib.hid h1
  have H2 := Lib.hid h2
  have HN := Lib.hid hn
  have qE := fun W x => show (binOp .neq 51 (dpV x) (dpV x)).run Tryz.prog W = .ok (.bool false) W by unfold dpV; rw [neDp]; simp
  unfold dpV at qE
  clear h1 h2 hn
  go_enter Tryz.func19, Tryz.ntmps19
  go_wp2
  go_loopw [13] (fun i' wr => ∃ j : Nat, i' = .int .i64 (j : Nat) ∧ j ≤ l.length ∧ Below w.heap.size w wr) (fun i' _ => l.length - (intOf i').toNat)
  case atStart => exact ⟨0, rfl, Nat.zero_le _, Below.refl _ _⟩
  case round =>
    rename World => wr
    obtain ⟨j, rfl, hj, hb⟩ := hrel
    by_cases hlt : j < l.length
    · obtain ⟨x, hx⟩ : ∃ x, l[j]? = some x := ⟨_, List.getElem?_eq_getElem hlt⟩
      obtain ⟨g, o, rfl, x0, x1, x2⟩ := DL.at_ (H1.out.gw hb) hx
      obtain ⟨g2, o2, rfl, y0, y1, y2⟩ := DL.at_ (H2.out.gw hb) hx
      have i1 : (j : Int) < (l.length : Int) := by omega
      have l1 : (j : Int) ≤ 10000000 := by have := HN.out; omega
      have HLT := Lib.hid hlt
      have HB := Lib.hid hb
      clear hj hlt hx hb
      go_upto_region 6 with fail
      go_region
      go_wp2
      go_roundw
      case rel => exact ⟨j + 1, by go_num, HLT.out, HB.out.drew⟩
      case measure => have := HLT.out; simp [intOf]; omega
    · have hje : j = l.length := by omega
      subst hje
      have i1 : ¬ (l.length : Int) < (l.length : Int) := by omega
      have HB := Lib.hid hb
      clear hj hlt hb
      go_wp2
      go_ret
      exact ⟨rfl, HB.out⟩

end Go.Proofs.YtnpeankmmojebaaGreatDoor

/- Layer 11: the law's live. -/
namespace Go.Proofs.YtnpeankmmojebaaGreatDoor
set_option maxRecDepth 100000
set_option maxRecDepth 100000
open Go.RowKit

theorem skew_right : Right skewC skewA := okH_iff.1 (by decide)
theorem skew_graph : graphP skewC skewA = [⟨1, 2, 3⟩, ⟨2, 1, 3⟩] := by decide
theorem skew_rise : riseP skewC = [1, 2] := by decide
theorem skew_edges : edgesP (riseP skewC) (graphP skewC skewA) = [(0, 1), (1, 0)] := by rw [skew_graph, skew_rise]; decide
theorem skew_round : RdIs skewC skewA [1, 2] := by
  have hE := skew_right.edOk
  refine ⟨[0, 1], ?_, by simp [skewC], by rw [skew_rise]; rfl⟩
  rw [skew_edges] at hE ⊢
  have h2 : ∀ r j, Way [(0, 1), (1, 0)] j r r → 2 ≤ j := fun r j hw => by
    have h0 := hw.pos
    rcases Nat.lt_or_ge 1 j with h | h
    · exact h
    · have : j = 1 := by omega
      subst this
      cases hw with
      | one he => exact absurd rfl (hE.ne _ he)
      | cons he hw => have := hw.pos; omega
  refine .inr ⟨0, 2, by simp [skewC], .cons (b := 1) (by simp) (.one (by simp)), fun r j _ hw => h2 r j hw, fun r hr => absurd hr (Nat.not_lt_zero _), rfl, rfl, fun i x y hi hx hy => ?_⟩
  have hi0 : i = 0 := by omega
  subst hi0
  have hx' : x = 0 := by simpa using hx.symm
  have hy' : y = 1 := by simpa using hy.symm
  subst hx' hy'
  refine ⟨⟨by simp, .one (by simp), fun i hw => hw.pos⟩, fun z hz _ => ?_⟩
  simp at hz
  omega
set_option maxHeartbeats 16000000 in
theorem wlLive (w : World) : Calls Tryz.prog 6 #[] w fun e w' => e = .returned (.bool true) ∧ Below w.heap.size w w' := by
  have CS := Lib.hid (wlSkew w)
  go_enter Tryz.func6, Tryz.ntmps6
  go_upto_region 2 with (first
    | (go_at_call 24; go_loud (refine CS.out.mono ?_; rintro e w1 ⟨sA, sc, sB, sd, rfl, h1, b1⟩; have B1 := Lib.hid b1; have CR := Lib.hid (wsRoundOk h1 skew_right); clear h1 b1))
    | (go_at_call 15; go_loud (refine CR.out.mono ?_; rintro e w2 ⟨v2, rfl, l2, r2, s2, b2⟩; have e2 := r2.unique skew_round; subst e2; have B2 := Lib.hid b2; obtain ⟨vA, vc, rfl, sb2, -⟩ := s2.form; have CE := Lib.hid (fun W (hW : Below w2.heap.size w2 W) (g : Nat) (hg : W.heap[g]? = some (.cells (numC [1, 2]).toArray 3 (0, 0))) => weqI (c1 := vc) (c2 := 2) (l := [1, 2]) (sb2.gw hW) (sb_block hg (numC_one _)) (by simp)); clear r2 s2 b2 sb2)))
  have CX := Lib.hid (show Calls Tryz.prog 9 #[.slice vA 2 vc, .slice (some ⟨w2.heap.size, 0, none⟩) 2 2] (w2.alloc (.cells #[.int .i64 1, .int .i64 2] 3)) fun e w' => e = .returned (.bool true) ∧ Below (w2.alloc (.cells #[.int .i64 1, .int .i64 2] 3)).heap.size (w2.alloc (.cells #[.int .i64 1, .int .i64 2] 3)) w' from CE.out _ (alloc_below11 w2 _) _ (heap_alloc_new w2 _))
  go_wp2_with (go_at_call 9; go_loud (refine CX.out.mono ?_; rintro e w3 ⟨rfl, b3⟩; have B3 := Lib.hid b3; clear b3))
  go_ret
  exact ⟨rfl, below_next (below_next (below_next B1.out B2.out) (alloc_below11 w2 _)) B3.out⟩
end Go.Proofs.YtnpeankmmojebaaGreatDoor

/- Layer 11: the law's right. -/
namespace Go.Proofs.YtnpeankmmojebaaGreatDoor
set_option maxRecDepth 100000
set_option maxRecDepth 100000
open Go.RowKit Go.Shelf

attribute [local go_sem] Oper.semAt_some
theorem results_bools {fn : Func} {p q : Tmp} (h : fn.results = #[.cell p 4, .cell q 4]) (tmps : Array Value) (w : World) (g1 g2 : Nat) (hp : tmps.getD p undef = .pointer (some ⟨g1, 0, none⟩)) (hq : tmps.getD q undef = .pointer (some ⟨g2, 0, none⟩)) (x y : Bool) (h1 : w.cell? ⟨g1, 0, none⟩ = some (.bool x)) (h2 : w.cell? ⟨g2, 0, none⟩ = some (.bool y)) :
    (results fn tmps).run Tryz.prog w = .ok (.tuple #[.bool x, .bool y]) w := by
  have hp' : tmps[p]?.getD undef = .pointer (some ⟨g1, 0, none⟩) := by simpa using hp
  have hq' : tmps[q]?.getD undef = .pointer (some ⟨g2, 0, none⟩) := by simpa using hq
  have l1 : (loadVar 4 ⟨g1, 0, none⟩).run Tryz.prog w = .ok (.bool x) w := by go_simp
  have l2 : (loadVar 4 ⟨g2, 0, none⟩).run Tryz.prog w = .ok (.bool y) w := by go_simp
  simp [results, h, hp', hq', asAddr, l1, l2, Result.andThen]
section
variable {w : World} {A B : Option Addr} {n c m d : Nat} {cs : List Int} {ac : List Ac}
/-- The world in which the law's right begins. -/
structure RiAt (w X : World) (A : Option Addr) (n c : Nat) (B : Option Addr) (m d : Nat) (cs : List Int) (ac : List Ac) : Prop where
  eq : ((w.alloc (.cells #[.slice A n c, .slice B m d] 25)).alloc (.cells #[.bool false] 4)).alloc (.cells #[.bool false] 4) = X
  h : Hist X A n c B m d cs ac
  x0 : X.cell? ⟨w.heap.size, 0, none⟩ = some (.slice A n c)
  x1 : X.cell? ⟨w.heap.size, 1, none⟩ = some (.slice B m d)
  r1 : X.heap[w.heap.size + 1]? = some (.cells #[.bool false] 4 (0, 0))
  r2 : X.heap[w.heap.size + 1 + 1]? = some (.cells #[.bool false] 4 (0, 0))
  sz : X.heap.size = w.heap.size + 1 + 1 + 1
  below : Below w.heap.size w X
theorem Hist.ri (h : Hist w A n c B m d cs ac) : ∃ X, RiAt w X A n c B m d cs ac := by
  obtain ⟨W0, hB⟩ := h.box
  obtain ⟨X1, hX1⟩ : ∃ X, W0.alloc (.cells #[.bool false] 4) = X := ⟨_, rfl⟩
  obtain ⟨X2, hX2⟩ : ∃ X, X1.alloc (.cells #[.bool false] 4) = X := ⟨_, rfl⟩
  have s0 : W0.heap.size = w.heap.size + 1 := by have := congrArg (fun W => W.heap.size) hB.eq; simpa using this.symm
  have s1 : X1.heap.size = W0.heap.size + 1 := by have := congrArg (fun W => W.heap.size) hX1; simpa using this.symm
  have s2 : X2.heap.size = X1.heap.size + 1 := by have := congrArg (fun W => W.heap.size) hX2; simpa using this.symm
  have b1 : Below W0.heap.size W0 X1 := hX1 ▸ alloc_below11 W0 _
  have b2 : Below X1.heap.size X1 X2 := hX2 ▸ alloc_below11 X1 _
  have r1 : X1.heap[W0.heap.size]? = some (.cells #[.bool false] 4 (0, 0)) := hX1 ▸ heap_alloc_new W0 _
  have r2 : X2.heap[X1.heap.size]? = some (.cells #[.bool false] 4 (0, 0)) := hX2 ▸ heap_alloc_new X1 _
  rw [s0] at r1 s1
  rw [s1] at r2 s2
  exact ⟨X2, by rw [hB.eq, hX1, hX2], (hB.h.gw b1).gw b2, keep_below (keep_below hB.x0 b1) b2, keep_below (keep_below hB.x1 b1) b2, (b2.block _ (by omega)).trans r1, r2, s2, below_next (below_next hB.below b1) b2⟩
set_option maxHeartbeats 16000000 in
theorem wlRightOk (h : Hist w A n c B m d cs ac) (hR : Right cs ac) :
    Calls Tryz.prog 5 #[histV A n c B m d] w fun e w' => e = .returned (.tuple #[.bool true, .bool true]) ∧ Below w.heap.size w w' := by
  obtain ⟨X, hX⟩ := h.ri
  have HX := Lib.hid hX
  have x0 := hX.x0
  have x1 := hX.x1
  have CC := Lib.hid (wrCheck hX.h)
  have CP := Lib.hid (fun W (hW : Below X.heap.size X W) => wsCheck (hX.h.gw hW))
  rw [errH_ok hR] at CC CP
  unfold histV at CC CP ⊢
  clear h hX hR
  go_enter Tryz.func5, Tryz.ntmps5
  go_upto_region 1 with fail
  rw [HX.out.eq]
  go_upto_region 3 with (go_at_call 21; go_loud (refine CC.out.mono ?_; rintro e w1 ⟨rfl, b1⟩; have B1 := Lib.hid b1; have C1 := Lib.hid (CP.out w1 b1); have y0 := keep_below x0 b1; have y1 := keep_below x1 b1; clear b1))
  go_upto_region 3 with fail
  have r1 : w1.heap[w.heap.size + 1]? = some (.cells #[.bool false] 4 (0, 0)) := (B1.out.block _ (by have := HX.out.sz; omega)).trans HX.out.r1
  have r2 : w1.heap[w.heap.size + 1 + 1]? = some (.cells #[.bool false] 4 (0, 0)) := (B1.out.block _ (by have := HX.out.sz; omega)).trans HX.out.r2
  have l1 := (Array.getElem?_eq_some_iff.1 r1).1
  have l2 := (Array.getElem?_eq_some_iff.1 r2).1
  have LL := Lib.hid (And.intro l1 l2)
  have RR := Lib.hid (And.intro r1 r2)
  clear r1 r2 l1 l2
  go_wp2_with (go_at_call 22; go_loud (refine C1.out.mono ?_; rintro e w2 ⟨rfl, b2⟩; have B2 := Lib.hid b2; have c1 : w2.cell? ⟨w.heap.size + 1, 0, none⟩ = some (.bool false) := cell_of_row _ _ 0 _ _ _ ((b2.block _ LL.out.1).trans RR.out.1); have c2 : w2.cell? ⟨w.heap.size + 1 + 1, 0, none⟩ = some (.bool false) := cell_of_row _ _ 0 _ _ _ ((b2.block _ LL.out.2).trans RR.out.2); have f1 : w2.frozen? ⟨w.heap.size + 1, 0, none⟩ = false := frozen_of_row _ _ _ _ _ ((b2.block _ LL.out.1).trans RR.out.1); have f2 : w2.frozen? ⟨w.heap.size + 1 + 1, 0, none⟩ = false := frozen_of_row _ _ _ _ _ ((b2.block _ LL.out.2).trans RR.out.2); clear b2))
  have K1 : Cel w2 (w.heap.size + 1) (.bool false) := ⟨c1, f1⟩
  have K2 : Cel w2 (w.heap.size + 1 + 1) (.bool false) := ⟨c2, f2⟩
  have j1 := (K1.set_same (.bool true)).set_other (c := w.heap.size + 1 + 1) (by omega) (.bool true)
  have j2 := (K2.set_other (c := w.heap.size + 1) (by omega) (.bool true)).set_same (.bool true)
  refine bodyPost_ret (results_bools rfl _ _ (w.heap.size + 1) (w.heap.size + 1 + 1) rfl rfl true true j1.1 j2.1) rfl ⟨rfl, ?_⟩
  exact ((below_next (below_next HX.out.below B1.out) B2.out).setCell (p := ⟨w.heap.size + 1, 0, none⟩) (by show w.heap.size ≤ w.heap.size + 1; omega) _).setCell (p := ⟨w.heap.size + 1 + 1, 0, none⟩) (by show w.heap.size ≤ w.heap.size + 1 + 1; omega) _
end
theorem wordNone (F : Fence) (hF : F = Fence.wide) (n l : Nat) (W : World) : CallsIn F n Tryz.prog 32 (#[.func (.yield l) #[] #[]] ++ #[]) W fun e w' => e = .returned (.tuple #[]) ∧ w' = W := by
  subst hF
  refine callsIn_wide.2 ?_
  simp only [Array.append_empty]
  go_enter Tryz.func32, Tryz.ntmps32
  go_wp2
  go_end0
  exact ⟨rfl, rfl⟩
theorem wp_range_none11 {n : Nat} {g : Operand} {ps : Array Tmp} {body : Code} {Q : Exit → Act → World → Prop} {a : Act} {V : World} (hn : 1 ≤ n) (hg : a.eval g = .func (.func 32) #[] #[]) (hps : ps.size = 1)
    (hdone : ∀ D W, V.heap.size ≤ D → Below V.heap.size V W → W.heap[D]? = some (.deferred (some [])) → Q .normal { a with defers := { target := .collected D, args := #[] } :: a.defers } W) :
    (Code.rangeFunc g ps Code.skip body).wpIn Fence.wide n Tryz.prog Q a V := by
  refine wp_hands (α := Unit) (encs := fun _ => #[.slice none 0 0]) (ok := fun _ _ _ => False) (keep := fun _ _ => True) (all := fun xs => xs = []) (part := fun _ => False) rfl hn hg trivial (enters_of Tryz.func32 (by kernel_rfl) rfl)
    (fun l J Jx W hW hJ hJx hY h0 => (wordNone _ rfl _ l W).mono fun e w' ⟨h1, h2⟩ => ⟨⟨_, h1⟩, .inl ⟨[], rfl, by rw [h2]; exact h0⟩⟩)
    (fun _ _ => trivial) (fun _ _ _ _ _ _ _ => trivial) (fun _ => by rw [hps]; rfl) (fun _ X => Below V.heap.size V X) (fun _ _ X => False) (fun s A B h hb => below_next h hb) (fun s A l o o' h hl ho hc => below_turn (o := o) (b := 0) h (Nat.le_refl _) hl _) (fun _ _ A B h _ => h.elim) (fun _ _ A l o o' h _ _ _ => h.elim)
    (fun _ _ A l o o' h _ _ _ => h.elim) (Below.refl _ _) (fun x => { tmps := (ps.zip #[.slice none 0 0]).foldl (fun t (p, v) => t.setIfInBounds p v) a.tmps, defers := [] }) ?_ (fun l pre x W _ _ h => h.elim)
    (fun D xs W h1 _ h3 h4 => hdone D W h1 h3 h4) (fun _ _ _ _ _ h _ _ => h.elim)
  intro l x W K hK
  have hz : (ps.zip (#[.slice none 0 0] : Array Value)).size = 1 := by simp [hps]
  first
    | exact wpIn_skip hK
    | exact wpIn_skip.2 hK
    | (gi_wp2; rw [hz] at hK; exact hK)
    | (gi_wp2; simpa [hz] using hK)
section
variable {w : World} {A B : Option Addr} {n c m d : Nat} {cs : List Int} {ac : List Ac}
set_option maxHeartbeats 16000000 in
theorem wlRightNo (h : Hist w A n c B m d cs ac) (hR : ¬ Right cs ac) :
    Calls Tryz.prog 5 #[histV A n c B m d] w fun e w' => e = .returned (.tuple #[.bool false, .bool true]) ∧ Below w.heap.size w w' := by
  obtain ⟨X, hX⟩ := h.ri
  have HX := Lib.hid hX
  have x0 := hX.x0
  have x1 := hX.x1
  have CC := Lib.hid (fun W (hW : Below X.heap.size X W) => wrCheck (HX.out.h.gw hW))
  have CK := Lib.hid (fun W (hW : Below X.heap.size X W) => wsCheck (HX.out.h.gw hW))
  have CG := Lib.hid (fun W (hW : Below X.heap.size X W) => wsGraphErr (HX.out.h.gw hW) hR)
  have CO := Lib.hid (fun W (hW : Below X.heap.size X W) => wsOrderErr (HX.out.h.gw hW) hR)
  have CRd := Lib.hid (fun W (hW : Below X.heap.size X W) => wsRoundErr (HX.out.h.gw hW) hR)
  have CS := Lib.hid (fun W (hW : Below X.heap.size X W) => wsSerialErr (HX.out.h.gw hW) hR (.slice A n c))
  have CP := Lib.hid (fun W (hW : Below X.heap.size X W) => wsPivErr (HX.out.h.gw hW) hR)
  have COs := Lib.hid (fun W (hW : Below X.heap.size X W) => wsOrdersErr (HX.out.h.gw hW) hR)
  rw [errH_not hR] at CC CK
  unfold histV at CC CK CG CO CRd CS CP COs ⊢
  have HC := Lib.hid (Below.refl X.heap.size X)
  clear h hX hR
  refine (callsIn_wide (n := 10)).1 ?_
  refine callsIn_of_wp_marks Tryz.func5 rfl trivial ?_ rfl
  simp only [Tryz.ntmps5, List.size_toArray, List.length_cons, List.length_nil, Nat.reduceAdd, Nat.reduceSub, Array.replicate_succ, Array.replicate_zero, List.push_toArray, List.append_toArray, List.nil_append, List.cons_append]
  gi_wp2_with (refine ⟨trivial, ?_⟩; first
    | (gi_at_call 21; go_loud (rw [HX.out.eq]; refine (callsIn_wide.2 (CC.out _ HC.out)).mono ?_; rintro e w9 ⟨rfl, b9⟩; replace HC := Lib.hid (below_next HC.out b9); replace x0 := keep_below x0 b9; replace x1 := keep_below x1 b9; clear b9))
    | (gi_at_call 14; go_loud (refine (callsIn_wide.2 (CG.out _ HC.out)).mono ?_; rintro e w9 ⟨rfl, b9⟩; replace HC := Lib.hid (below_next HC.out b9); replace x0 := keep_below x0 b9; replace x1 := keep_below x1 b9; clear b9))
    | (gi_at_call 7; go_loud (refine (callsIn_wide.2 (CO.out _ HC.out)).mono ?_; rintro e w9 ⟨rfl, b9⟩; replace HC := Lib.hid (below_next HC.out b9); replace x0 := keep_below x0 b9; replace x1 := keep_below x1 b9; clear b9))
    | (gi_at_call 15; go_loud (refine (callsIn_wide.2 (CRd.out _ HC.out)).mono ?_; rintro e w9 ⟨rfl, b9⟩; replace HC := Lib.hid (below_next HC.out b9); replace x0 := keep_below x0 b9; replace x1 := keep_below x1 b9; clear b9))
    | (gi_at_call 23; go_loud (refine (callsIn_wide.2 (CS.out _ HC.out)).mono ?_; rintro e w9 ⟨rfl, b9⟩; replace HC := Lib.hid (below_next HC.out b9); replace x0 := keep_below x0 b9; replace x1 := keep_below x1 b9; clear b9))
    | (gi_at_call 16; go_loud (refine (callsIn_wide.2 (CP.out _ HC.out)).mono ?_; rintro e w9 ⟨rfl, b9⟩; replace HC := Lib.hid (below_next HC.out b9); replace x0 := keep_below x0 b9; replace x1 := keep_below x1 b9; clear b9))
    | (gi_at_call 11; go_loud (refine (callsIn_wide.2 (COs.out _ HC.out)).mono ?_; rintro e w9 ⟨rfl, b9⟩; replace HC := Lib.hid (below_next HC.out b9); replace x0 := keep_below x0 b9; replace x1 := keep_below x1 b9; clear b9)))
  refine wp_range_none11 (by decide) rfl rfl ?_
  intro D1 X1 hD1 g1 hm1
  have M1 := Lib.hid hm1
  have hsz := HC.out.size
  have SD := Lib.hid (show X.heap.size ≤ D1 from Nat.le_trans hsz hD1)
  replace HC := Lib.hid (below_next HC.out g1)
  replace x0 := keep_below x0 g1
  replace x1 := keep_below x1 g1
  have q1 := (HC.out.block _ (by have := HX.out.sz; omega)).trans HX.out.r1
  have q2 := (HC.out.block _ (by have := HX.out.sz; omega)).trans HX.out.r2
  have k1 : Cel X1 (w.heap.size + 1) (.bool false) := ⟨cell_of_row _ _ 0 _ _ _ q1, frozen_of_row _ _ _ _ _ q1⟩
  have k2 : Cel X1 (w.heap.size + 1 + 1) (.bool false) := ⟨cell_of_row _ _ 0 _ _ _ q2, frozen_of_row _ _ _ _ _ q2⟩
  have K1 := Lib.hid k1
  have K2 := Lib.hid k2
  clear q1 q2 k1 k2 hD1 g1 hm1 hsz
  gi_wp2_with (refine ⟨trivial, ?_⟩; gi_at_call 22; go_loud (refine (callsIn_wide.2 (CK.out _ HC.out)).mono ?_; rintro e w9 ⟨rfl, b9⟩; replace HC := Lib.hid (below_next HC.out b9); have B9 := Lib.hid b9; have c1 := (K1.out.below b9).1; have c2 := (K2.out.below b9).1; have f1 := (K1.out.below b9).2; have f2 := (K2.out.below b9).2; clear b9))
  have j1 := ((K1.out.below B9.out).set_same (.bool false)).set_other (c := w.heap.size + 1 + 1) (by omega) (.bool true)
  have j2 := ((K2.out.below B9.out).set_other (c := w.heap.size + 1) (by omega) (.bool false)).set_same (.bool true)
  have hbl : Below w.heap.size w ((w9.setCell ⟨w.heap.size + 1, 0, none⟩ (.bool false)).setCell ⟨w.heap.size + 1 + 1, 0, none⟩ (.bool true)) :=
    ((below_next HX.out.below HC.out).setCell (p := ⟨w.heap.size + 1, 0, none⟩) (by show w.heap.size ≤ w.heap.size + 1; omega) _).setCell (p := ⟨w.heap.size + 1 + 1, 0, none⟩) (by show w.heap.size ≤ w.heap.size + 1 + 1; omega) _
  refine leaves_marksE (fun Y => Below w.heap.size w Y ∧ Cel Y (w.heap.size + 1) (.bool false) ∧ Cel Y (w.heap.size + 1 + 1) (.bool true)) X.heap.size (fun Y D h hD ho => ⟨below_turn (o := .deferred (some [])) (b := 0) h.1 (Nat.le_refl _) (by have := HX.out.below.size; omega) _, h.2.1.turn _ ho rfl, h.2.2.turn _ ho rfl⟩) (fun Y h => ?_) [D1] _ (by simp) (fun E hE => ?_) ⟨hbl, j1, j2⟩
  · exact ⟨_, results_bools rfl _ _ (w.heap.size + 1) (w.heap.size + 1 + 1) rfl rfl false true h.2.1.1 h.2.2.1, rfl, h.1⟩
  · rw [List.mem_singleton.1 hE]
    have h1 := (Array.getElem?_eq_some_iff.1 M1.out).1
    have h2 := SD.out
    have h3 := HX.out.sz
    exact ⟨h2, (Below.heap_setCell _ _ _ _ (by show D1 ≠ w.heap.size + 1 + 1; omega)).trans ((Below.heap_setCell _ _ _ _ (by show D1 ≠ w.heap.size + 1; omega)).trans ((B9.out.block _ h1).trans M1.out))⟩
end
end Go.Proofs.YtnpeankmmojebaaGreatDoor
