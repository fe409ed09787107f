/- LexisTells: All of any text, left early, gone over again. -/
import Derived.Test.YtagangneoibbcaaDoorLxRr
import Derived.Sort.CutIn
set_option linter.unusedVariables false
namespace Go.Proofs.YtagangneoibbcaaDoor
set_option maxRecDepth 100000
set_option maxRecDepth 100000
open Go.RowKit Go.Shelf

attribute [local go_sem] Oper.semAt_some

/-- The marks of loops that are over lead to no call. -/
def markE (D : Nat) : Deferred := { target := .collected D, args := #[] }
theorem leaves_marksX {F : Fence} {n : Nat} {P : Program} {fn : Func} {tmps : Array Value} {R : Ending → World → Prop} (T : World → Prop) (s : Nat)
    (hT : ∀ W D, T W → s ≤ D → W.heap[D]? = some (.deferred (some [])) → T (W.putObj D (.deferred none))) (hR : ∀ W, T W → LeavesInM F n P fn tmps R [] .returning W) :
    ∀ (Ds : List Nat) (W : World), Ds.Nodup → (∀ D, D ∈ Ds → s ≤ D ∧ W.heap[D]? = some (.deferred (some []))) → T W → LeavesInM F n P fn tmps R (Ds.map markE) .returning W := by
  intro Ds
  induction Ds with
  | nil => exact fun W _ _ h => hR W h
  | cons D Ds ih =>
    intro W hn hd ht
    obtain ⟨h1, h2⟩ := List.nodup_cons.1 hn
    obtain ⟨hs, hD⟩ := hd D (List.mem_cons_self ..)
    refine ⟨by simp, .inl ⟨D, _, rfl, run_takeDeferred hD, ih _ h2 (fun E hE => ⟨(hd E (List.mem_cons_of_mem _ hE)).1, ?_⟩) (hT _ _ ht hs hD)⟩⟩
    rw [World.putObj_heap_other (fun e => h1 (by rw [← e]; exact hE))]
    exact (hd E (List.mem_cons_of_mem _ hE)).2
def tmH (p3 p4 p5 gf : Nat) (lb : Array Value) (j : Nat) (us : Nat → Value) : Array Value := #[us 0, us 1, us 2, .pointer (some ⟨p3, 0, none⟩), .pointer (some ⟨p4, 0, none⟩), .pointer (some ⟨p5, 0, none⟩), us 6, us 7, .func (.func gf) #[] lb, us 9, us 10, us 11, us 12, us 13, us 14, us 15, us 16, us 17, us 18, us 19, us 20, us 21, us 22, .int .i64 (j : Nat), us 24, us 25, us 26, us 27, us 28, us 29, us 30, us 31, us 32, us 33, us 34, us 35, us 36, us 37, us 38, us 39, us 40, us 41, us 42, us 43, us 44, us 45, us 46, us 47, us 48, us 49, us 50, us 51, us 52, us 53, us 54, us 55, us 56, us 57, us 58, us 59, us 60, us 61, us 62, us 63, us 64, us 65, us 66, us 67, us 68, us 69, us 70, us 71, us 72, us 73, us 74, us 75, us 76, us 77, us 78, us 79]
def tmB (p3 p4 p5 p9 p10 z p12 : Nat) (us : Nat → Value) : Array Value := #[us 0, us 1, us 2, .pointer (some ⟨p3, 0, none⟩), .pointer (some ⟨p4, 0, none⟩), .pointer (some ⟨p5, 0, none⟩), us 6, us 7, us 8, .pointer (some ⟨p9, 0, none⟩), .pointer (some ⟨p10, 0, none⟩), .int .i64 (z : Nat), .pointer (some ⟨p12, 0, none⟩), us 13, us 14, us 15, us 16, us 17, us 18, us 19, us 20, us 21, us 22, us 23, us 24, us 25, us 26, us 27, us 28, us 29, us 30, us 31, us 32, us 33, us 34, us 35, us 36, us 37, us 38, us 39, us 40, us 41, us 42, us 43, us 44, us 45, us 46, us 47, us 48, us 49, us 50, us 51, us 52, us 53, us 54, us 55, us 56, us 57, us 58, us 59, us 60, us 61, us 62, us 63, us 64, us 65, us 66, us 67, us 68, us 69, us 70, us 71, us 72, us 73, us 74, us 75, us 76, us 77, us 78, us 79]
/-- What the loop over the two rounds keeps. -/
def LT (WB : World) (p3 p4 p5 gf : Nat) (lb : Array Value) (a' : Act) (wr : World) : Prop :=
  ∃ (Ds : List Nat) (j : Nat) (us : Nat → Value), a' = { tmps := tmH p3 p4 p5 gf lb j us, defers := Ds.map markE } ∧ j ≤ 2 ∧ Below WB.heap.size WB wr ∧ Ds.Nodup ∧ ∀ D ∈ Ds, WB.heap.size ≤ D ∧ wr.heap[D]? = some (.deferred (some []))
theorem LT.mk' {WB : World} {p3 p4 p5 gf : Nat} {lb : Array Value} {a' : Act} {wr : World} (Ds : List Nat) (j : Nat) (h : a' = { tmps := tmH p3 p4 p5 gf lb j (fun k => a'.tmps.getD k undef), defers := Ds.map markE }) (hj : j ≤ 2) (hb : Below WB.heap.size WB wr) (hn : Ds.Nodup)
    (hd : ∀ D ∈ Ds, WB.heap.size ≤ D ∧ wr.heap[D]? = some (.deferred (some []))) : LT WB p3 p4 p5 gf lb a' wr := ⟨Ds, j, _, h, hj, hb, hn, hd⟩
/-- A token in a block of its own. -/
def TkAt (W : World) (p : Nat) (y : Tk) : Prop := W.heap[p]? = some (.cells #[Value.int .i64 y.k, .string y.t, .int .i64 y.vk, .int .i64 y.vi, .bool false, .string y.vb, .complex .f64 0 0, .int .i64 (y.a : Nat)] 36 (0, 0))
theorem TkAt.range {W : World} {p : Nat} {y : Tk} (h : TkAt W p y) : W.rangeAt p 0 [Value.int .i64 y.k, .string y.t, .int .i64 y.vk, .int .i64 y.vi, .bool false, .string y.vb, .complex .f64 0 0, .int .i64 (y.a : Nat)] := by
  intro j v hj
  rw [Nat.zero_add, cell_of_row _ _ _ _ _ _ h, ← hj]
  simp
/-- Where a round begins. -/
def AxT (p3 p4 p5 p9 p10 : Nat) (x : Nat × Tk) (a' : Act) (W' : World) : Prop := ∃ (p12 : Nat) (us : Nat → Value), a' = { tmps := tmB p3 p4 p5 p9 p10 x.1 p12 us, defers := [] } ∧ TkAt W' p12 x.2
theorem AxT.mk' {p3 p4 p5 p9 p10 : Nat} {x : Nat × Tk} {a' : Act} {W' : World} (p12 : Nat) (h : a' = { tmps := tmB p3 p4 p5 p9 p10 x.1 p12 (fun k => a'.tmps.getD k undef), defers := [] }) (ht : TkAt W' p12 x.2) : AxT p3 p4 p5 p9 p10 x a' W' := ⟨p12, _, h, ht⟩
theorem AxT.turns {N p3 p4 p5 p9 p10 : Nat} (x : Nat × Tk) (a' : Act) : Turns N (AxT p3 p4 p5 p9 p10 x a') := fun A l o o' ⟨p12, us, h1, h2⟩ hl ho hc => ⟨p12, us, h1, (World.putObj_heap_other (fun e => by subst e; unfold TkAt at h2; rw [h2] at ho; cases ho; cases hc)).trans h2⟩
/-- What a range over All keeps: how many have been. -/
def IT (V : World) (p10 : Nat) (pre : List (Nat × Tk)) (X : World) : Prop := Bx X p10 (.int .i64 (pre.length : Nat)) 3 ∧ Out (fun k => k = p10) V X
section
variable {V : World} {p10 : Nat}
theorem IT.stays (pre : List (Nat × Tk)) : Stays (IT V p10 pre) := fun A B h hb => ⟨h.1.gw hb, h.2.then (Out.of_below hb _)⟩
theorem IT.turns (hp : p10 < V.heap.size) (pre : List (Nat × Tk)) : Turns V.heap.size (IT V p10 pre) := fun A l o o' h hl ho hc => ⟨h.1.turn o' ho hc, h.2.grown (grownBy_putObj' A l o') (fun k e => by cases e; exact .inr hl)⟩
theorem IT.tol (hp : p10 < V.heap.size) (pre : List (Nat × Tk)) : Tol V.heap.size (IT V p10 pre) := fun A B g o h hg ho hr hO => ⟨h.1.tol (by decide) ho hr hO, h.2.trans hO (fun i hi e => by have e : i = g := e; omega)⟩
end
theorem Bx.out9 {V X : World} {b : Nat} {v : Value} {t : TypeId} (h : Bx V b v t) (o : Out (fun k => k = b + 1) V X) : Bx X b v t := (o.block b h.lt (fun e => by have e : b = b + 1 := e; omega)).trans h
theorem Bx.outN {V X : World} {b g : Nat} {v : Value} {t : TypeId} (h : Bx V b v t) (o : Out (fun k => k = g) V X) (hne : b ≠ g) : Bx X b v t := (o.block b h.lt hne).trans h
theorem keep_out {A B : World} {p : Nat} {v : Value} (h : Bx A p v 3) (ho : Out (fun k => k = p) A B) (hp : 3 < p) : KeepsOthers A B ∧ keepX A B := by
  unfold Bx at h
  refine ⟨⟨ho.size, fun k o hk hc => (ho.block k (Array.getElem?_eq_some_iff.1 hk).1 (fun e => ?_)).trans hk⟩, fun k o hk hr => (ho.block k (Array.getElem?_eq_some_iff.1 hk).1 (fun e => ?_)).trans hk, fun he => he.out ho hp⟩
  · have e : k = p := e
    subst e
    rw [h] at hk
    injection hk with hk
    subst hk
    cases hc
  · have e : k = p := e
    subst e
    rw [h] at hk
    obtain ⟨vs, fr, rfl⟩ := hr
    injection hk with hk
    injection hk with h1 h2
    exact absurd h2 (by decide)
theorem tellsMarks {WB wr X : World} {D : Nat} {Ds : List Nat} (hb : Below WB.heap.size WB wr) (hnd : Ds.Nodup) (hds : ∀ E ∈ Ds, WB.heap.size ≤ E ∧ wr.heap[E]? = some (.deferred (some []))) (hx : Below wr.heap.size wr X) (hD : wr.heap.size < D) (hm : X.heap[D]? = some (.deferred (some []))) :
    Below WB.heap.size WB X ∧ (D :: Ds).Nodup ∧ ∀ E ∈ D :: Ds, WB.heap.size ≤ E ∧ X.heap[E]? = some (.deferred (some [])) := by
  refine ⟨hb.trans (hx.mono hb.size), List.nodup_cons.2 ⟨fun h => ?_, hnd⟩, fun E hE => ?_⟩
  · have := (Array.getElem?_eq_some_iff.1 (hds D h).2).1
    omega
  · rcases List.mem_cons.1 hE with rfl | hE
    · exact ⟨by have := hb.size; omega, hm⟩
    · exact ⟨(hds E hE).1, (hx.block E (Array.getElem?_eq_some_iff.1 (hds E hE).2).1).trans (hds E hE).2⟩
theorem keepX_trans {A B C : World} (h : keepX A B) (k : keepX B C) : keepX A C := ⟨fun b o h1 r => k.1 b o (h.1 b o h1 r) r, fun he => k.2 (h.2 he)⟩
theorem keepX_below {A B : World} (hb : Below A.heap.size A B) : keepX A B := ⟨fun b o h _ => (hb.block b (Array.getElem?_eq_some_iff.1 h).1).trans h, fun he => he.below hb⟩
theorem keepX_turn (A : World) (l : Nat) (o o' : Obj) (hl : A.heap[l]? = some o) (hc : o.isCells = false) : keepX A (A.putObj l o') :=
  ⟨fun b u hu hr => (World.putObj_heap_other (fun e => by subst e; rw [hu] at hl; injection hl with hl; subst hl; obtain ⟨vs, fr, rfl⟩ := hr; cases hc)).trans hu,
   fun ⟨te, pe, h⟩ => ⟨te, pe, cell_kept h (grownBy_putObj' A l o') (fun r e => by cases e; exact ⟨o, hl, hc⟩)⟩⟩
theorem wTokAny (s : ByteArray) (hs : s.size ≤ 140737488351232) : ∃ l : List Tk, l.length ≤ 1000000 ∧
    (∀ W, Calls Tryd.prog 13 #[.string s] W fun e w' => ∃ v x1 x2, e = .returned (.tuple #[v, .int .i64 x1, .int .i64 x2]) ∧ Below W.heap.size W w' ∧ TL W.heap.size w' v l) ∧
    (∀ W, Calls Tryd.prog 14 #[.string s] W fun e w' => ∃ v, e = .returned v ∧ Below W.heap.size W w' ∧ AllAt l v w') := by
  by_cases h : s.size ≤ 65536
  · exact ⟨_, toks_len s h, fun W => (wrAhead s W h).mono fun e w' ⟨h1, v, h2, h3⟩ => ⟨v, _, _, h2, h1, h3⟩, fun W => wAll s W h⟩
  · exact ⟨[], by simp, fun W => (wrAheadLong s W (by omega) hs).mono fun e w' ⟨h1, h2⟩ => ⟨_, _, _, h1, h2 ▸ Below.refl _ _, TL.nil _ _⟩, fun W => wAllLong s W (by omega) hs⟩
set_option maxHeartbeats 32000000 in
theorem walk_LexisTells (s : ByteArray) (stop : Int) (w : World) (he : ErrAt w) (hs : s.size ≤ 140737488351232) (_hz : -9223372036854775808 ≤ stop ∧ stop ≤ 9223372036854775807) :
    Calls Tryd.prog 4 #[.string s, .int .i64 stop] w fun e w' => e = .returned (.bool true) ∧ Below w.heap.size w w' := by
  obtain ⟨l, hll, hCA, hCL⟩ := wTokAny s hs
  have CA := Lib.hid hCA
  have CL := Lib.hid hCL
  have HLL := Lib.hid hll
  have BG := Lib.hid fun W (h : ErrAt W) => wBegun W h
  obtain ⟨W0, hW0⟩ : ∃ X, (w.alloc (.cells #[.int .i64 stop] 3)).alloc (.cells #[.bool false] 4) = X := ⟨_, rfl⟩
  have HW0 := Lib.hid hW0
  have B0 := Lib.hid (show Below w.heap.size w W0 by rw [← hW0]; exact ((Below.refl _ _).alloc (Nat.le_refl _) _).alloc (by simp) _)
  have Q3 := Lib.hid (show Bx W0 w.heap.size (.int .i64 stop) 3 by rw [← hW0]; exact heap_alloc2_old _ _ _)
  have Q4 := Lib.hid (show Bx W0 (w.heap.size + 1) (.bool false) 4 by rw [← hW0]; exact heap_alloc2_new _ _ _)
  have E0 := Lib.hid (he.below B0.out)
  have S0 := Lib.hid (show W0.heap.size = w.heap.size + 2 by rw [← hW0]; simp)
  clear hW0 hs he hll hCA hCL
  refine (callsIn_wide (n := 10)).1 ?_
  refine callsIn_of_wp_marks Tryd.func4 rfl trivial ?_ rfl
  simp only [Tryd.ntmps4, List.size_toArray, List.length_cons, List.length_nil, Nat.reduceAdd, Nat.reduceSub, Array.replicate_succ, Array.replicate_zero, List.push_toArray, List.append_toArray, List.nil_append, List.cons_append]
  gi_upto_region 1 with fail
  rw [HW0.out]
  gi_upto_region 4 with (refine ⟨trivial, ?_⟩; first
    | (gi_at_call 11; go_loud (refine (callsIn_wide.2 (BG.out _ E0.out)).mono ?_; rintro e w1 ⟨rfl, b1⟩; have B1 := Lib.hid b1; clear b1))
    | (gi_at_call 13; go_loud (refine (callsIn_wide.2 (CA.out _)).mono ?_; rintro e w2 ⟨v2, x1, x2, rfl, b2, t2⟩; have B2 := Lib.hid b2; obtain ⟨A, c, rfl, sb, -⟩ := t2.form; have SB2 := Lib.hid sb; clear b2 t2 sb)))
  obtain ⟨W3, hW3⟩ : ∃ X, w2.alloc (.cells #[.slice A l.length c] 22) = X := ⟨_, rfl⟩
  have B3 := Lib.hid (show Below w2.heap.size w2 W3 by rw [← hW3]; exact (Below.refl _ _).alloc (Nat.le_refl _) _)
  have Q5 := Lib.hid (show Bx W3 w2.heap.size (.slice A l.length c) 22 by rw [← hW3]; exact heap_alloc_new _ _)
  rw [hW3]
  clear hW3
  gi_upto_region 5 with (refine ⟨trivial, ?_⟩; gi_at_call 14; go_loud (refine (callsIn_wide.2 (CL.out _)).mono ?_; rintro e WB ⟨v5, rfl, b5, ⟨gf, lb, rfl, eg, hh⟩⟩; have B5 := Lib.hid b5; have EG := Lib.hid eg; have HH := Lib.hid hh; clear b5 eg hh))
  have G3 := Lib.hid (below_next (below_next (below_next B1.out B2.out) B3.out) B5.out)
  have H3 := Lib.hid (Q3.out.gw G3.out)
  have H4 := Lib.hid (Q4.out.gw G3.out)
  have H5 := Lib.hid (Q5.out.gw B5.out)
  have HSB := Lib.hid ((SB2.out.gw B3.out).gw B5.out)
  have HER := Lib.hid (E0.out.below G3.out)
  have GW := Lib.hid (below_next B0.out G3.out)
  have L5 := Lib.hid (show w.heap.size + 1 < w2.heap.size by have := S0.out; have := B1.out.size; have := B2.out.size; omega)
  obtain ⟨p3, hp3⟩ : ∃ p, w.heap.size = p := ⟨_, rfl⟩
  obtain ⟨p4, hp4⟩ : ∃ p, p3 + 1 = p := ⟨_, rfl⟩
  obtain ⟨p5, hp5⟩ : ∃ p, w2.heap.size = p := ⟨_, rfl⟩
  rw [hp5] at H5 L5
  rw [hp3, hp4] at H4 L5
  rw [hp3] at H3
  rw [hp3, hp4, hp5]
  have HP := Lib.hid (show w.heap.size = p3 ∧ p3 + 1 = p4 ∧ p4 < p5 ∧ p5 < WB.heap.size from ⟨hp3, hp4, L5.out, H5.out.lt⟩)
  clear hp3 hp4 hp5 B0 B1 B2 B3 B5 Q3 Q4 Q5 SB2 E0 S0 G3 L5 HW0 CA CL BG
  gi_wp2
  refine wpIn_loop (LT WB p3 p4 p5 gf lb) (fun a' _ => 2 - (intOf (a'.tmps.getD 23 undef)).toNat) ?_ ?_
  · exact LT.mk' [] 0 rfl (by omega) (Below.refl _ _) List.nodup_nil (by simp)
  rintro _ wr ⟨Ds, j, us, rfl, hj, hb, hnd, hds⟩
  unfold tmH
  have HB := Lib.hid hb
  have HND := Lib.hid hnd
  have HDS := Lib.hid hds
  by_cases hlt : j < 2
  · have HLT := Lib.hid hlt
    have i1 : (j : Int) < 2 := by omega
    have i4 : IntKind.i64.wrap ((j : Int) + 1) = ((j + 1 : Nat) : Int) := by rw [IntKind.wrap_i64]; omega
    have i5 : wrap64 ((j : Int) + 1) = ((j + 1 : Nat) : Int) := by unfold wrap64; omega
    obtain ⟨V, hV⟩ : ∃ X, (wr.alloc (.cells #[.int .i64 (j : Nat)] 3)).alloc (.cells #[.int .i64 0] 3) = X := ⟨_, rfl⟩
    have HV := Lib.hid hV
    have BV := Lib.hid (show Below wr.heap.size wr V by rw [← hV]; exact ((Below.refl _ _).alloc (Nat.le_refl _) _).alloc (by simp) _)
    have V9 := Lib.hid (show Bx V wr.heap.size (.int .i64 (j : Nat)) 3 by rw [← hV]; exact heap_alloc2_old _ _ _)
    have V10 := Lib.hid (show Bx V (wr.heap.size + 1) (.int .i64 (([] : List (Nat × Tk)).length : Nat)) 3 by rw [← hV]; exact heap_alloc2_new _ _ _)
    have SV := Lib.hid (show V.heap.size = wr.heap.size + 2 by rw [← hV]; simp)
    clear hV hb hnd hds hlt hj
    gi_wp2
    rw [HV.out]
    have GV := Lib.hid (HB.out.trans (BV.out.mono HB.out.size))
    have EV := Lib.hid (HER.out.below GV.out)
    have RG := Lib.hid (show 3 < wr.heap.size + 1 by have := HER.out.lt; have := HB.out.size; omega)
    have LOW := Lib.hid (show ∀ X, Out (fun k => k = wr.heap.size + 1) V X → Below wr.heap.size wr X from fun X o => BV.out.trans (o.below (B := wr.heap.size) (by rw [SV.out]; omega) (fun i hi e => by have e : i = wr.heap.size + 1 := e; omega)))
    have P10 : wr.heap.size + 1 < V.heap.size := by rw [SV.out]; omega
    refine wp_handsX (gf := gf) (lb := lb) rfl (by decide) rfl trivial EG.out (HH.out V 9 EV.out GV.out) keepX_trans (fun A l o o' _ hl hc => keepX_turn A l o o' hl hc) (fun _ => rfl)
      (IT V (wr.heap.size + 1)) (fun c pre X => c = .exit 2 ∧ j = 0 ∧ (pre.length : Int) = stop ∧ IT V (wr.heap.size + 1) pre X)
      IT.stays (IT.turns P10) (IT.tol P10) (fun c s A B h hb => ⟨h.1, h.2.1, h.2.2.1, IT.stays s A B h.2.2.2 hb⟩) (fun c s A l o o' h hl ho hc => ⟨h.1, h.2.1, h.2.2.1, IT.turns P10 s A l o o' h.2.2.2 hl ho hc⟩)
      (fun s x A l o o' h _ _ _ => h) ⟨V10.out, Out.refl _ _⟩ (fun A B h => keepX_below h) (fun s x A B h _ => h)
      (AxT p3 p4 p5 wr.heap.size (wr.heap.size + 1)) AxT.turns
      ?assign ?body ?done ?stop
    case assign =>
      rintro l ⟨z, y⟩ X K hX hK
      have hst := run_store_cx Tryd.prog
      unfold encX
      dsimp only
      gi_wp2
      refine hK _ _ (AxT.mk' X.heap.size rfl ?_) ?_
      · exact heap_alloc_new X _
      · exact (Below.refl _ _).alloc (Nat.le_refl _) _
    case body =>
      rintro l1 pre ⟨z, y⟩ _ X hX ⟨p12, us, rfl, ht⟩ ⟨h10, ho⟩ ⟨hz, hy⟩
      dsimp only at hz hy ht ⊢
      unfold tmB
      obtain rfl := hz
      obtain ⟨z, hzz⟩ : ∃ z, pre.length = z := ⟨_, rfl⟩
      have HZ := Lib.hid hzz
      have HLN := Lib.hid (show (pre ++ [(z, y)]).length = z + 1 by simp [hzz])
      rw [hzz] at h10 hy ⊢
      have hzl : z < l.length := (List.getElem?_eq_some_iff.1 hy).1
      obtain ⟨g, o, hA, q0⟩ := SB.elE Tk.len (by decide) ((HSB.out.gw HB.out).gw (LOW.out X ho)) hy
      subst hA
      have LX := Lib.hid (LOW.out X ho)
      have X9 := Lib.hid (V9.out.out9 ho)
      have X10 := Lib.hid h10
      have X3 := Lib.hid ((H3.out.gw HB.out).gw (LOW.out X ho))
      have X5 := Lib.hid ((H5.out.gw HB.out).gw (LOW.out X ho))
      have XO := Lib.hid ho
      have k10 := cell_regrown X10.out.c
      have k5 := cell_regrown X5.out.c
      have RD1 := Lib.hid (range_regrown ht.range)
      have RD2 := Lib.hid (range_regrown (show X.rangeAt g (o + z * 8) [Value.int .i64 y.k, .string y.t, .int .i64 y.vk, .int .i64 y.vi, .bool false, .string y.vb, .complex .f64 0 0, .int .i64 (y.a : Nat)] from fun i v hv => q0 i v hv))
      have HI := Lib.hid (show (Tryd.prog.info? 36).map (·.size) = some [Value.int .i64 y.k, .string y.t, .int .i64 y.vk, .int .i64 y.vi, .bool false, .string y.vb, .complex .f64 0 0, .int .i64 (y.a : Nat)].length by rfl)
      have cT : ∀ m d os, CallsIn Fence.wide m Tryd.prog 15 #[.agg #[Value.int .i64 y.k, .string y.t, .int .i64 y.vk, .int .i64 y.vi, .bool false, .string y.vb, .complex .f64 0 0, .int .i64 (y.a : Nat)], .agg #[Value.int .i64 y.k, .string y.t, .int .i64 y.vk, .int .i64 y.vi, .bool false, .string y.vb, .complex .f64 0 0, .int .i64 (y.a : Nat)]] (Go.Sort.grow (redrawn X d) os) fun e w'' => e = .returned (.bool true) ∧ ∃ p : Regrown, w'' = Go.Sort.grow (redrawn X p.d) p.os := fun m d os => CallsIn.regrown_of (callsIn_wide.2 (wSameT y _))
      have j1 : (z : Int) < (l.length : Int) := by omega
      have j2 : ¬ (l.length : Int) ≤ (z : Int) := by omega
      have j3 : (z : Int) ≤ 1000000 := by have := HLL.out; omega
      have j4 : IntKind.i64.wrap ((z : Int) + 1) = ((z + 1 : Nat) : Int) := by rw [IntKind.wrap_i64]; omega
      have j5 : wrap64 ((z : Int) + 1) = ((z + 1 : Nat) : Int) := by unfold wrap64; omega
      obtain ⟨ln, hln⟩ : ∃ n, l.length = n := ⟨_, rfl⟩
      rw [hln] at k5 j1 j2 X5
      clear ht h10 ho hy hzl q0 hzz hX
      gi_upto_region 12 with fail
      refine wpIn_region_quiet_round l1 rfl (by kernel_rfl) (by kernel_rfl) (by rfl) ?_
      iterate 10 (quiet_step_in (fail))
      refine wpQuietIn_loadT (by rfl) 36 (.tmp 12) rfl p12 0 rfl [Value.int .i64 y.k, .string y.t, .int .i64 y.vk, .int .i64 y.vi, .bool false, .string y.vb, .complex .f64 0 0, .int .i64 (y.a : Nat)] _ RD1.out Tryd.underlying36 rfl HI.out ?_
      iterate 3 (quiet_step_in (fail))
      refine wpQuietIn_loadT (by rfl) 36 (.tmp 42) rfl g (o + z * 8) rfl [Value.int .i64 y.k, .string y.t, .int .i64 y.vk, .int .i64 y.vi, .bool false, .string y.vb, .complex .f64 0 0, .int .i64 (y.a : Nat)] _ RD2.out Tryd.underlying36 rfl HI.out ?_
      refine wpQuietIn_step (fun _ _ _ _ => trivial) (fun K hK => ?_)
      go_simp
      apply Exists.intro
      refine ⟨fun _ => ?_, hK _ ?_⟩
      · first | exact cT _ _ _ | exact ⟨by decide, cT _ _ _⟩
      clear hK K
      iterate 2 (quiet_step_in (fail))
      refine wpQuietIn_nil ?_
      intro _ hw'
      obtain ⟨⟨dq, osq⟩, hw''⟩ := hw'
      subst hw''
      obtain ⟨Y, hY⟩ : ∃ Y, Go.Sort.grow (redrawn X dq) osq = Y := ⟨_, rfl⟩
      have BY := Lib.hid (show Below X.heap.size X Y by rw [← hY]; exact below_regrown X dq osq)
      simp only [hY]
      clear hY k10 k5 RD1 RD2 cT HI
      have y10 := X10.out.gw BY.out
      have c10 := y10.c
      have f10 := y10.f
      obtain ⟨Y1, hY1⟩ : ∃ Y1, Y.setCell ⟨wr.heap.size + 1, 0, none⟩ (.int .i64 ((z + 1 : Nat) : Int)) = Y1 := ⟨_, rfl⟩
      have O1 := Lib.hid (show Out (fun k => k = wr.heap.size + 1) Y Y1 by rw [← hY1]; exact (Out.refl (fun k => k = wr.heap.size + 1) Y).setCell (p := ⟨wr.heap.size + 1, 0, none⟩) (.inl rfl) _)
      have Z10 := Lib.hid (show Bx Y1 (wr.heap.size + 1) (.int .i64 ((z + 1 : Nat) : Int)) 3 by rw [← hY1]; exact y10.set _)
      have p3n : p3 ≠ wr.heap.size + 1 := by have := HP.out; have := HB.out.size; omega
      have d9 := ((X9.out.gw BY.out).out9 O1.out).c
      have d10 := Z10.out.c
      have d3 := ((X3.out.gw BY.out).outN O1.out p3n).c
      have OXY := Lib.hid ((Out.of_below BY.out (fun k => k = wr.heap.size + 1)).then O1.out)
      have KK := Lib.hid (keep_out X10.out OXY.out RG.out)
      have FIN := Lib.hid (show IT V (wr.heap.size + 1) (pre ++ [(z, y)]) Y1 from ⟨by rw [HLN.out]; exact Z10.out, XO.out.then OXY.out⟩)
      obtain ⟨z1, hz1⟩ : ∃ n, z + 1 = n := ⟨_, rfl⟩
      have HZ1 := Lib.hid hz1
      rw [hz1] at hY1 d10 j4 j5 HLN
      clear y10 Z10 hz1 p3n
      by_cases hj0 : j = 0
      · subst hj0
        by_cases hm : (z1 : Int) = stop
        · subst hm
          gi_wp2
          exact ⟨KK.out.1, rfl, by rw [HLN.out], FIN.out⟩
        · have hm2 : ((z1 : Int) == stop) = false := by simpa using hm
          gi_wp2
          exact ⟨KK.out.1, KK.out.2, FIN.out⟩
      · have hj2 : ¬ (j : Int) = 0 := by omega
        have hj3 : ((j : Int) == 0) = false := by simpa using hj0
        gi_wp2
        exact ⟨KK.out.1, KK.out.2, FIN.out⟩
    case done =>
      rintro D xs X hD hxs ⟨h10, ho⟩ hmk
      rw [hxs] at h10
      have LX := Lib.hid (LOW.out X ho)
      have c9 := (V9.out.out9 ho).c
      have c10 := h10.c
      have c5 := ((H5.out.gw HB.out).gw (LOW.out X ho)).c
      have c3 := ((H3.out.gw HB.out).gw (LOW.out X ho)).c
      have HD := Lib.hid (show wr.heap.size < D by rw [SV.out] at hD; omega)
      have HM := Lib.hid hmk
      have FIN := Lib.hid (show Below WB.heap.size WB X ∧ (D :: Ds).Nodup ∧ ∀ E ∈ D :: Ds, WB.heap.size ≤ E ∧ X.heap[E]? = some (.deferred (some [])) from tellsMarks HB.out HND.out HDS.out LX.out HD.out HM.out)
      have hl9 := HLL.out
      obtain ⟨ln, hln⟩ : ∃ n, l.length = n := ⟨_, rfl⟩
      rw [hln] at c10 c5 hl9
      clear h10 ho hmk hD hln hxs
      obtain rfl | rfl : j = 0 ∨ j = 1 := by have := HLT.out; omega
      · gi_wp2
        refine ⟨LT.mk' (D :: Ds) 1 rfl (by omega) FIN.out.1 FIN.out.2.1 FIN.out.2.2, ?_⟩
        simp [tmH, intOf]
      · gi_wp2
        refine ⟨LT.mk' (D :: Ds) 2 rfl (by omega) FIN.out.1 FIN.out.2.1 FIN.out.2.2, ?_⟩
        simp [tmH, intOf]
    case stop =>
      rintro D c1 pre X hD - ⟨rfl, rfl, hst, h10, ho⟩ hmk
      obtain ⟨q, hq⟩ : ∃ q, pre.length = q := ⟨_, rfl⟩
      rw [hq] at h10 hst
      have LX := Lib.hid (LOW.out X ho)
      have c9 := (V9.out.out9 ho).c
      have c10 := h10.c
      have c5 := ((H5.out.gw HB.out).gw (LOW.out X ho)).c
      have c3 := ((H3.out.gw HB.out).gw (LOW.out X ho)).c
      have HD := Lib.hid (show wr.heap.size < D by rw [SV.out] at hD; omega)
      have HM := Lib.hid hmk
      have FIN := Lib.hid (show Below WB.heap.size WB X ∧ (D :: Ds).Nodup ∧ ∀ E ∈ D :: Ds, WB.heap.size ≤ E ∧ X.heap[E]? = some (.deferred (some [])) from tellsMarks HB.out HND.out HDS.out LX.out HD.out HM.out)
      obtain ⟨ln, hln⟩ : ∃ n, l.length = n := ⟨_, rfl⟩
      rw [hln] at c5
      rw [← hst] at c3
      clear h10 ho hmk hD hln hq hst
      by_cases hql : q = ln
      · subst hql
        gi_wp2
        refine ⟨LT.mk' (D :: Ds) 1 rfl (by omega) FIN.out.1 FIN.out.2.1 FIN.out.2.2, ?_⟩
        simp [tmH, intOf]
      · have hq1 : ¬ (q : Int) = (ln : Int) := by omega
        have hq2 : ((q : Int) == (ln : Int)) = false := by simpa using hq1
        have hq3 : ((q : Int) != (ln : Int)) = true := by simpa using hq1
        gi_wp2
        refine ⟨LT.mk' (D :: Ds) 1 rfl (by omega) FIN.out.1 FIN.out.2.1 FIN.out.2.2, ?_⟩
        simp [tmH, intOf]
  · obtain rfl : j = 2 := by omega
    have c4 := (H4.out.gw hb).c
    have f4 := (H4.out.gw hb).f
    have END := Lib.hid (show Bx (wr.setCell ⟨p4, 0, none⟩ (.bool true)) p4 (.bool true) 4 ∧ Below w.heap.size w (wr.setCell ⟨p4, 0, none⟩ (.bool true)) ∧ ∀ D ∈ Ds, w.heap.size ≤ D ∧ (wr.setCell ⟨p4, 0, none⟩ (.bool true)).heap[D]? = some (.deferred (some [])) from
      ⟨(H4.out.gw hb).set _, (GW.out.trans (hb.mono GW.out.size)).setCell (p := ⟨p4, 0, none⟩) (by show w.heap.size ≤ p4; have := HP.out; omega) _, fun D hD => ⟨Nat.le_trans GW.out.size (hds D hD).1, (Below.heap_setCell _ _ _ _ (by show D ≠ p4; have := HP.out; have := (hds D hD).1; omega)).trans (hds D hD).2⟩⟩)
    clear hb hnd hds hlt hj
    gi_wp2
    refine leaves_marksX (fun Y => Below w.heap.size w Y ∧ Bx Y p4 (.bool true) 4) w.heap.size (fun Y D h hD ho => ⟨below_turn (o := .deferred (some [])) (b := 0) h.1 (Nat.le_refl _) hD _, h.2.turn _ ho rfl⟩) (fun Y h => ?_) Ds _ HND.out END.out.2.2 ⟨END.out.2.1, END.out.1⟩
    have hc5 := h.2.c
    exact ⟨.bool true, by simp [results, Tryd.f4, go_sem, hc5], rfl, h.1⟩
end Go.Proofs.YtagangneoibbcaaDoor
