import Derived.Test.YtnpeankmmojebaaGreatDoorJBO
import Derived.Test.YtnpeankmmojebaaGreatDoorJBE
import Derived.Test.YtnpeankmmojebaaGreatDoorSeRk
import Derived.Test.YtnpeankmmojebaaGreatDoorJBG
import Derived.Test.YtnpeankmmojebaaGreatDoorJAT
import Derived.Test.YtnpeankmmojebaaGreatDoorJAR
/- Layer 11: what the law on Orders rests on. -/
set_option linter.unusedVariables false
namespace Go.Proofs.YtnpeankmmojebaaGreatDoor
set_option maxRecDepth 100000
set_option maxRecDepth 100000
open Go.RowKit Go.Shelf

attribute [local go_sem] Oper.semAt_some

/-- The marks of loops that are over lead to no call. -/
def markO (D : Nat) : Deferred := { target := .collected D, args := #[] }
theorem leaves_marksO {F : Fence} {n : Nat} {P : Program} {fn : Func} {tmps : Array Value} {R : Ending → World → Prop} (T : World → Prop) (s : Nat)
    (hT : ∀ W D, T W → s ≤ D → W.heap[D]? = some (.deferred (some [])) → T (W.putObj D (.deferred none))) (hR : ∀ W, T W → LeavesInM F n P fn tmps R [] .returning W) :
    ∀ (Ds : List Nat) (W : World), Ds.Nodup → (∀ D, D ∈ Ds → s ≤ D ∧ W.heap[D]? = some (.deferred (some []))) → T W → LeavesInM F n P fn tmps R (Ds.map markO) .returning W := by
  intro Ds
  induction Ds with
  | nil => exact fun W _ _ h => hR W h
  | cons D Ds ih =>
    intro W hn hd ht
    obtain ⟨h1, h2⟩ := List.nodup_cons.1 hn
    obtain ⟨hs, hD⟩ := hd D (List.mem_cons_self ..)
    refine ⟨by simp, .inl ⟨D, _, rfl, run_takeDeferred hD, ih _ h2 (fun E hE => ⟨(hd E (List.mem_cons_of_mem _ hE)).1, ?_⟩) (hT _ _ ht hs hD)⟩⟩
    rw [World.putObj_heap_other (fun e => h1 (by rw [← e]; exact hE))]
    exact (hd E (List.mem_cons_of_mem _ hE)).2
theorem marksO {WB wr X : World} {D : Nat} {Ds : List Nat} (hb : Below WB.heap.size WB wr) (hnd : Ds.Nodup) (hds : ∀ E ∈ Ds, WB.heap.size ≤ E ∧ wr.heap[E]? = some (.deferred (some []))) (hx : Below wr.heap.size wr X) (hD : wr.heap.size < D) (hm : X.heap[D]? = some (.deferred (some []))) :
    Below WB.heap.size WB X ∧ (D :: Ds).Nodup ∧ ∀ E ∈ D :: Ds, WB.heap.size ≤ E ∧ X.heap[E]? = some (.deferred (some [])) := by
  refine ⟨hb.trans (hx.mono hb.size), List.nodup_cons.2 ⟨fun h => ?_, hnd⟩, fun E hE => ?_⟩
  · have := (Array.getElem?_eq_some_iff.1 (hds D h).2).1
    omega
  · rcases List.mem_cons.1 hE with rfl | hE
    · exact ⟨by have := hb.size; omega, hm⟩
    · exact ⟨(hds E hE).1, (hx.block E (Array.getElem?_eq_some_iff.1 (hds E hE).2).1).trans (hds E hE).2⟩
def tmQ (p2 p3 p4 p12 gf : Nat) (lb : Array Value) (j : Nat) (us : Nat → Value) : Array Value := #[us 0, us 1, .pointer (some ⟨p2, 0, none⟩), .pointer (some ⟨p3, 0, none⟩), .pointer (some ⟨p4, 0, none⟩), us 5, us 6, us 7, us 8, us 9, us 10, us 11, .pointer (some ⟨p12, 0, none⟩), .func (.func gf) #[] lb, us 14, us 15, us 16, us 17, us 18, us 19, us 20, us 21, us 22, us 23, us 24, us 25, us 26, us 27, us 28, us 29, us 30, us 31, us 32, us 33, us 34, us 35, us 36, us 37, us 38, us 39, us 40, us 41, us 42, us 43, us 44, us 45, us 46, us 47, us 48, us 49, us 50, us 51, us 52, us 53, us 54, us 55, us 56, us 57, us 58, us 59, us 60, us 61, us 62, us 63, us 64, us 65, .int .i64 (j : Nat), us 67, us 68, us 69, us 70, us 71, us 72, us 73, us 74, us 75, us 76, us 77, us 78, us 79, us 80, us 81, us 82, us 83, us 84, us 85, us 86, us 87, us 88, us 89, us 90, us 91, us 92, us 93, us 94]
def tmP (p2 p3 p4 p12 p14 : Nat) (x : Value) (us : Nat → Value) : Array Value := #[us 0, us 1, .pointer (some ⟨p2, 0, none⟩), .pointer (some ⟨p3, 0, none⟩), .pointer (some ⟨p4, 0, none⟩), us 5, us 6, us 7, us 8, us 9, us 10, us 11, .pointer (some ⟨p12, 0, none⟩), us 13, .pointer (some ⟨p14, 0, none⟩), x, us 16, us 17, us 18, us 19, us 20, us 21, us 22, us 23, us 24, us 25, us 26, us 27, us 28, us 29, us 30, us 31, us 32, us 33, us 34, us 35, us 36, us 37, us 38, us 39, us 40, us 41, us 42, us 43, us 44, us 45, us 46, us 47, us 48, us 49, us 50, us 51, us 52, us 53, us 54, us 55, us 56, us 57, us 58, us 59, us 60, us 61, us 62, us 63, us 64, us 65, us 66, us 67, us 68, us 69, us 70, us 71, us 72, us 73, us 74, us 75, us 76, us 77, us 78, us 79, us 80, us 81, us 82, us 83, us 84, us 85, us 86, us 87, us 88, us 89, us 90, us 91, us 92, us 93, us 94]
/-- What the loop over the two rounds keeps. -/
def LO (WB : World) (p2 p3 p4 p12 gf : Nat) (lb : Array Value) (a' : Act) (wr : World) : Prop :=
  ∃ (Ds : List Nat) (j : Nat) (us : Nat → Value), a' = { tmps := tmQ p2 p3 p4 p12 gf lb j us, defers := Ds.map markO } ∧ j ≤ 2 ∧ Below WB.heap.size WB wr ∧ Ds.Nodup ∧ ∀ D ∈ Ds, WB.heap.size ≤ D ∧ wr.heap[D]? = some (.deferred (some []))
theorem LO.mk' {WB : World} {p2 p3 p4 p12 gf : Nat} {lb : Array Value} {a' : Act} {wr : World} (Ds : List Nat) (j : Nat) (h : a' = { tmps := tmQ p2 p3 p4 p12 gf lb j (fun k => a'.tmps.getD k undef), defers := Ds.map markO }) (hj : j ≤ 2) (hb : Below WB.heap.size WB wr) (hn : Ds.Nodup)
    (hd : ∀ D ∈ Ds, WB.heap.size ≤ D ∧ wr.heap[D]? = some (.deferred (some []))) : LO WB p2 p3 p4 p12 gf lb a' wr := ⟨Ds, j, _, h, hj, hb, hn, hd⟩
/-- Where a round begins. -/
def AxO (p2 p3 p4 p12 p14 : Nat) (x : List Int × Value) (a' : Act) (_ : World) : Prop := ∃ us : Nat → Value, a' = { tmps := tmP p2 p3 p4 p12 p14 x.2 us, defers := [] }
theorem AxO.mk' {p2 p3 p4 p12 p14 : Nat} {x : List Int × Value} {a' : Act} {W' : World} (h : a' = { tmps := tmP p2 p3 p4 p12 p14 x.2 (fun k => a'.tmps.getD k undef), defers := [] }) : AxO p2 p3 p4 p12 p14 x a' W' := ⟨_, h⟩
/-- What a range over Orders keeps: how many have been. -/
def IO (V : World) (p N mo : Nat) (pre : List (List Int × Value)) (X : World) : Prop := Vx X p (.int .i64 (pre.length : Nat)) 3 ∧ Out (fun k => k = p ∨ N ≤ k) V X ∧ pre.length < mo
section
variable {V A B : World} {p N mo : Nat} {pre : List (List Int × Value)}
theorem IO.gw (h : IO V p N mo pre A) (hb : Below A.heap.size A B) : IO V p N mo pre B := ⟨h.1.gw hb, h.2.1.then (Out.of_below hb _), h.2.2⟩
theorem IO.turn {l : Nat} {o : Obj} (h : IO V p N mo pre A) (o' : Obj) (hl : V.heap.size ≤ l) (ho : A.heap[l]? = some o) (hc : o.isCells = false) : IO V p N mo pre (A.putObj l o') :=
  ⟨h.1.turn o' ho hc, h.2.1.grown (grownBy_putObj' A l o') (fun k e => by cases e; exact .inr hl), h.2.2⟩
theorem IO.out (h : IO V p N mo pre A) (hp : p < N) (ho : Out (fun k => N ≤ k) A B) : IO V p N mo pre B :=
  ⟨(ho.block p h.1.lt (fun e => by have e : N ≤ p := e; omega)).trans h.1, h.2.1.trans ho (fun i _ e => .inr e), h.2.2⟩
theorem okO.gw {X : List (List Int)} {n : Nat} {x : List Int × Value} (h : okO X n pre x A) (hb : Below A.heap.size A B) : okO X n pre x B := by
  obtain ⟨h1, Ad, c, h2, h3⟩ := h
  exact ⟨h1, Ad, c, h2, h3.gw hb⟩
theorem okO.turn {X : List (List Int)} {n : Nat} {x : List Int × Value} {l : Nat} {o : Obj} (h : okO X n pre x A) (o' : Obj) (hl : A.heap[l]? = some o) (hc : o.isCells = false) : okO X n pre x (A.putObj l o') := by
  obtain ⟨h1, Ad, c, h2, h3⟩ := h
  refine ⟨h1, Ad, c, h2, h3.len, h3.one, fun h0 => ?_⟩
  obtain ⟨g, q, e, hc2⟩ := h3.cell h0
  exact ⟨g, q, e, fun j u hj => cell_kept (hc2 j u hj) (grownBy_putObj' A l o') (fun r e => by cases e; exact ⟨o, hl, hc⟩)⟩
end
/-- The whole first order, or none. -/
def firstO (cs : List Int) (n : Nat) (M : List Nat) : List Int := if M.length = n then numsP cs M else []
def allO (cs : List Int) (ac : List Ac) (n : Nat) (M : List Nat) : List (List Int) := if M.length = n then allN cs ac n else []
theorem FL.atO {base z : Nat} {w : World} {A : Option Addr} {k c : Nat} {F : List (List Int)} {l : List Int} (h : FL base w (.slice A k c) F) (hx : F[z]? = some l) : ∃ g o A' c', A = some ⟨g, o, none⟩ ∧ w.cell? ⟨g, o + z, none⟩ = some (.slice A' l.length c') ∧ SB w A' l.length (numC l) := by
  obtain ⟨vs, so, hF⟩ := h
  obtain ⟨A1, c1, e1, h1, -⟩ := so.form
  cases e1
  have e : seS.s * F.length = F.length := Nat.one_mul _
  rw [e] at h1
  have hz : z < F.length := (List.getElem?_eq_some_iff.1 hx).1
  have hu : vs[z]? = some (vs[z]'(by rw [h1.len]; exact hz)) := List.getElem?_eq_getElem _
  obtain ⟨A', c', e2, h2, -⟩ := hF z _ l hu hx
  rw [e2] at hu
  obtain ⟨g, o, e3, h3⟩ := h1.at_ hu
  exact ⟨g, o, A', c', e3, h3, h2⟩
section
variable {w : World} {A B : Option Addr} {n c m d : Nat} {cs : List Int} {ac : List Ac} {M : List Nat}
theorem wsOrderAll (h : Hist w A n c B m d cs ac) (hR : Right cs ac) (hT : TzAt w) (hM : FillP (edgeH cs ac) n [] M) :
    Calls Tryz.prog 7 #[histV A n c B m d] w fun e w' => ∃ A1 c1, e = .returned (.tuple #[.slice A1 (firstO cs n M).length c1, .bool (decide (M.length = n)), .int .i64 0]) ∧ SB w' A1 (firstO cs n M).length (numC (firstO cs n M)) ∧ Below w.heap.size w w' := by
  refine (wsOrderOk h hR hT hM).mono ?_
  rintro e w' ⟨v, rfl, s, b⟩
  have s' : SO seI w.heap.size w' v (firstO cs n M).length (numC (firstO cs n M)) := by
    unfold firstO
    by_cases hM' : M.length = n
    · rw [if_pos hM', if_pos hM'] at s
      rw [if_pos hM', show (numsP cs M).length = M.length by simp [numsP]]
      exact s
    · rw [if_neg hM', if_neg hM'] at s
      rw [if_neg hM']
      exact s
  obtain ⟨A1, c1, rfl, h1, -⟩ := s'.form
  have e : seI.s * (firstO cs n M).length = (firstO cs n M).length := Nat.one_mul _
  rw [e] at h1
  exact ⟨A1, c1, rfl, h1, b⟩
theorem wrOrderAll (h : Hist w A n c B m d cs ac) (hR : Right cs ac) (hM : FillP (edgeH cs ac) n [] M) :
    Calls Tryz.prog 8 #[histV A n c B m d] w fun e w' => ∃ A1 c1, e = .returned (.tuple #[.slice A1 (firstO cs n M).length c1, .bool (decide (M.length = n))]) ∧ SB w' A1 (firstO cs n M).length (numC (firstO cs n M)) ∧ Below w.heap.size w w' := by
  refine (wrOrder h hR hM).mono ?_
  rintro e w' ⟨v, rfl, s, b⟩
  have s' : SO seI w.heap.size w' v (firstO cs n M).length (numC (firstO cs n M)) := by
    unfold firstO
    by_cases hM' : M.length = n
    · rw [if_pos hM', if_pos hM'] at s
      rw [if_pos hM', show (numsP cs M).length = n by simp [numsP, hM']]
      exact s
    · rw [if_neg hM', if_neg hM'] at s
      rw [if_neg hM']
      exact s
  obtain ⟨A1, c1, rfl, h1, -⟩ := s'.form
  have e : seI.s * (firstO cs n M).length = (firstO cs n M).length := Nat.one_mul _
  rw [e] at h1
  exact ⟨A1, c1, rfl, h1, b⟩
set_option maxHeartbeats 16000000 in
theorem hands_none (nn bx gb b1 : Nat) (V : World) {keep : World → World → Prop} {ok : List (List Int × Value) → List Int × Value → World → Prop} (hR : Right cs ac) (hcl : cs.length = n) (hbx : Vx V bx (.pointer (some ⟨gb, 0, none⟩)) 62) (hnw : NetW V gb b1 n (riseP cs) (edgeH cs ac)) (hT : TzAt V) (hM : FillP (edgeH cs ac) n [] M) (hMl : M.length ≠ n) :
    HandsB Fence.wide nn Tryz.prog 33 #[.pointer (some ⟨bx, 0, none⟩)] encO ok keep (fun xs => xs.map (·.1) = []) (fun _ => True) V := by
  intro l J Jx W hW hJ hJx hTol hY h0
  have HJ := Lib.hid hJ
  have HTO := Lib.hid hTol
  have hn : n ≤ 4096 := by rw [← hcl]; exact hR.lc
  have hE : EdOk (edgeH cs ac) n := by have := hR.edOk; rw [hcl] at this; exact this
  have HN := Lib.hid hn
  have HE := Lib.hid hE
  have HL := Lib.hid (edge_len hR)
  have HM := Lib.hid hM
  have cb := (hbx.gw hW).c
  have TW := Lib.hid (hT.below hW)
  have HSZ := Lib.hid (show V.heap.size ≤ W.heap.size from hW.size)
  have HTP := Lib.hid hT.lt
  have J0 := Lib.hid h0
  have HML := Lib.hid hMl
  have CN := Lib.hid (wsNewWalk (E := edgeH cs ac) (hnw.below hW).at_ (edge_len hR) hn)
  clear hW hJ hJx hTol hY h0 hbx hnw hT hM hMl hn hE hR hcl
  refine callsIn_wide.2 ?_
  simp only [List.append_toArray, List.cons_append, List.nil_append]
  go_enter Tryz.func33, Tryz.ntmps33
  go_upto_region 1 with (go_at_call 25; go_loud (refine CN.out.mono ?_; rintro e w1 ⟨gw, rfl, k1, bb1⟩; have B1 := Lib.hid bb1; have CF := Lib.hid (wsFill k1 HE.out HL.out HN.out (TW.out.below bb1) (Nat.lt_of_lt_of_le HTP.out HSZ.out) .nil); clear k1 bb1))
  clear cb
  go_upto_region 2 with (go_at_call 27; go_loud (refine CF.out.mono ?_; rintro e w2 ⟨M2, f2, k2, o2, rfl⟩; obtain rfl := f2.det HM.out; have K2 := Lib.hid k2; have O2 := Lib.hid o2; clear f2 k2 o2; rw [decide_eq_false HML.out]))
  have J2 := Lib.hid (HTO.out [] w1 w2 (HJ.out [] W w1 J0.out B1.out) O2.out)
  go_loopg [4] 1 (fun gk isv wr => isv = .bool false ∧ J [] wr ∧ gk = 1)
  case atStart => exact ⟨rfl, J2.out, rfl⟩
  case round =>
    rename World => wr
    obtain ⟨rfl, hj, hgk⟩ := hrel
    have JJ := Lib.hid hj
    clear hj hgk
    go_wp2
    go_end0
    exact ⟨⟨_, rfl⟩, .inl ⟨[], rfl, JJ.out⟩⟩
theorem hands_allO (nn bx gb p b1 : Nat) (V : World) (hR : Right cs ac) (hcl : cs.length = n) (hbx : Vx V bx (.pointer (some ⟨gb, 0, none⟩)) 62) (hnw : NetW V gb b1 n (riseP cs) (edgeH cs ac)) (hb1 : b1 ≤ p) (hp : p < V.heap.size) (hT : TzAt V) (htp : 0 ≠ p) (hM : FillP (edgeH cs ac) n [] M) :
    HandsB Fence.wide nn Tryz.prog 33 #[.pointer (some ⟨bx, 0, none⟩)] encO (okO (allO cs ac n M) n) (keepO p V.heap.size) (fun xs => xs.map (·.1) = allO cs ac n M) (fun _ => True) V := by
  unfold allO
  by_cases hMl : M.length = n
  · rw [if_pos hMl]
    exact hands_orders nn bx gb p b1 V hR hcl hbx hnw hb1 hp hT htp hM hMl
  · rw [if_neg hMl]
    exact hands_none nn bx gb b1 V hR hcl hbx hnw hT hM hMl
theorem wrOrdersAll (h : Hist w A n c B m d cs ac) (hR : Right cs ac) (hM : FillP (edgeH cs ac) n [] M) {most : Nat} (h64 : most ≤ 256) :
    Calls Tryz.prog 10 #[histV A n c B m d, .int .i64 (most : Nat)] w fun e w' => ∃ A1 c1, e = .returned (.slice A1 ((allO cs ac n M).take most).length c1) ∧ FL w.heap.size w' (.slice A1 ((allO cs ac n M).take most).length c1) ((allO cs ac n M).take most) ∧ Below w.heap.size w w' := by
  refine (wrOrders h hR hM h64).mono ?_
  rintro e w' ⟨v, rfl, s, b⟩
  have s' : FL w.heap.size w' v ((allO cs ac n M).take most) := by
    unfold allO
    split at s
    · rename_i hM'; rw [if_pos hM']; exact s
    · rename_i hM'; rw [if_neg hM', List.take_nil]; exact s
  obtain ⟨A1, c1, rfl⟩ := s'.form
  exact ⟨A1, c1, rfl, s', b⟩
end
end Go.Proofs.YtnpeankmmojebaaGreatDoor

/- Layer 11: the law's scribble: it writes into the list that a call made, and into nothing else. -/
namespace Go.Proofs.YtnpeankmmojebaaGreatDoor
set_option maxRecDepth 100000
set_option maxRecDepth 100000
open Go.RowKit

theorem SO.addr11 {E : SEl} {base n c : Nat} {w : World} {A : Option Addr} {xs : List Value} (h : SO E base w (.slice A n c) n xs) (hn : 0 < n) : ∃ g, A = some ⟨g, 0, none⟩ ∧ base ≤ g := by
  rcases h.own.2 with ⟨hv, -⟩ | ⟨g, cap, cur, hv, hb, -⟩
  · simp only [Value.slice.injEq] at hv; omega
  · simp only [Value.slice.injEq] at hv; exact ⟨g, hv.1, hb⟩
def Ints11 (xs : List Value) : Prop := ∀ x, x ∈ xs → ∃ z, x = .int .i64 z
theorem Ints11.set {xs : List Value} (h : Ints11 xs) (j : Nat) (z : Int) : Ints11 (xs.set j (.int .i64 z)) := by
  intro x hx
  rcases List.mem_or_eq_of_mem_set hx with hx | rfl
  · exact h x hx
  · exact ⟨z, rfl⟩
theorem ints_numC11 (zs : List Int) : Ints11 (numC zs) := by
  intro x hx
  simp only [numC, List.mem_map] at hx
  obtain ⟨z, -, rfl⟩ := hx
  exact ⟨z, rfl⟩
theorem Ints11.at_ {xs : List Value} (h : Ints11 xs) {j : Nat} (hj : j < xs.length) : ∃ z, xs[j]? = some (.int .i64 z) := by
  obtain ⟨s, hs⟩ := h xs[j] (List.getElem_mem _)
  exact ⟨s, by rw [List.getElem?_eq_getElem hj, hs]⟩
theorem sb_num11 (w : World) (z : Int) : SB (w.alloc (.cells #[.int .i64 z] 3)) (some ⟨w.heap.size, 0, none⟩) (seI.s * 1) (numC [z]) :=
  ⟨rfl, numC_one _, fun _ => ⟨_, 0, rfl, fun j u hj => (by match j, hj with | 0, hj => (cases hj; exact cell_of_row _ _ 0 _ _ _ (heap_alloc_new _ _)))⟩⟩
set_option maxHeartbeats 8000000 in
theorem wscribble11 {base n c : Nat} {A : Option Addr} {w : World} {xs : List Value} (h : SO seI base w (.slice A n c) n xs) (hi : Ints11 xs) (hn : n ≤ 1000000) (hb : base ≤ w.heap.size) :
    Calls Tryz.prog 17 #[.slice A n c] w fun e w' => (∃ u, e = .returned u) ∧ Out (fun k => (Value.slice A n c).ownBlock = some k) w w' := by
  have HN := Lib.hid hn
  have H0 := Lib.hid h
  have HI := Lib.hid hi
  have HW := Lib.hid hb
  clear h hi hn hb
  go_enter Tryz.func17, Tryz.ntmps17
  go_wp2
  go_loopw [5] (fun i wr => ∃ (k : Nat) (xs : List Value), i = .int .i64 (k : Nat) ∧ k ≤ n ∧ SO seI base wr (.slice A n c) n xs ∧ Ints11 xs ∧ Out (fun k => (Value.slice A n c).ownBlock = some k) w wr) (fun i _ => n - (intOf i).toNat)
  case atStart => exact ⟨0, xs, rfl, Nat.zero_le _, H0.out, HI.out, Out.refl _ _⟩
  case round =>
    rename World => wy
    clear H0 HI
    obtain ⟨q, xs, rfl, hq, hO, hX, hB⟩ := hrel
    by_cases hlt : q < n
    · obtain ⟨g, rfl, hg⟩ := hO.addr11 (by omega)
      have hxl : xs.length = 1 * n := hO.len
      obtain ⟨s0, hs0⟩ := hX.at_ (j := q) (by omega)
      have d0 : wy.cell? ⟨g, q, none⟩ = some (.int .i64 s0) := (hO.own.cellAt q (by show q < n * 1; omega)).trans hs0
      have f0 : wy.frozen? ⟨g, q, none⟩ = false := hO.own.frozenAt _
      have HLT := Lib.hid hlt
      have HX := Lib.hid hX
      have HO := Lib.hid hO
      have HB := Lib.hid hB
      have i3 : (q : Int) < (n : Int) := by omega
      have qb' : (q : Int) ≤ 4000000 := by have := HN.out; omega
      clear hX hO hB hg hlt hq hxl hs0
      go_wp2
      go_roundw
      case rel => exact ⟨q + 1, _, by go_num, HLT.out, HO.out.set1 q _ rfl, HX.out.set _ _, HB.out.setCell (p := ⟨g, q, none⟩) (.inl rfl) _⟩
      case measure => have := HLT.out; simp [intOf]; omega
    · obtain rfl : q = n := by omega
      have i3 : ¬ (q : Int) < (q : Int) := by omega
      have qb' : (q : Int) ≤ 4000000 := by have := HN.out; omega
      have HO := Lib.hid hO
      have HB := Lib.hid hB
      have HX := Lib.hid (show xs.length = q by have := hO.len; rw [show seI.s * q = q from Nat.one_mul _] at this; exact this)
      have HL := Lib.hid (sb_num11 wy (-9))
      have HZ := Lib.hid hB.size
      have HBB := Lib.hid (show seI.b ≤ 4096 from seI_ok.b1)
      clear hO hX hB hlt hq
      go_wp2_with (at_builtin; go_loud (refine so_appendL seI_ok (by rfl) (.tmp 12) (.tmp 13) (by rfl) _ (by rfl) (HO.out.alloc _) wy.heap.size 1 (numC [-9]) (by rfl) HL.out (by (have := HN.out; show (q + 1) * 8 ≤ 140737488355328; omega)) (by (have := HN.out; simp only [maxLen]; omega)) (by (have := HW.out; have := HZ.out; simp; omega)) ?_; intro g3 c3 w3 o3 b3 l3; have d3 : w3.cell? ⟨g3, q, none⟩ = some (.int .i64 (-9)) := ((o3.own.cellAt q (by show q < (q + 1) * 1; omega)).trans (by rw [List.getElem?_append_right (by have := HX.out; omega), HX.out, Nat.sub_self]; rfl)); have f3 : w3.frozen? ⟨g3, q, none⟩ = false := o3.own.frozenAt _; have B3 := Lib.hid ((HB.out.alloc (.cells #[.int .i64 (-9)] 3)).grown b3 (fun k e => .inl e)); have G3 := Lib.hid l3; clear o3 b3 l3))
      go_end0
      refine ⟨⟨_, rfl⟩, B3.out.setCell (p := ⟨g3, q, none⟩) ?_ _⟩
      rcases G3.out with e | e
      · exact .inl e
      · right
        have := HZ.out
        show w.heap.size ≤ g3
        rw [e]
        simp
        omega
end Go.Proofs.YtnpeankmmojebaaGreatDoor
