import Derived.Test.YtnpeankmmojebaaGreatDoorJBN
import Derived.Deep.RegionHeld3
import Derived.Test.YtnpeankmmojebaaGreatDoorJAC
import Derived.Test.YtnpeankmmojebaaGreatDoorDRow
import Derived.Test.YtnpeankmmojebaaGreatDoorJBB
import Derived.OwnWalkIn
/- Layer 11: the reference's more, whole; Orders. -/
set_option linter.unusedVariables false
namespace Go.Proofs.YtnpeankmmojebaaGreatDoor
set_option maxRecDepth 100000
open Go.RowKit

section
variable {w0 : World} {A B gA : Option Addr} {n c m d gc q most : Nat} {cs : List Int} {ac : List Ac}
theorem wrMore (h0 : Hist w0 A n c B m d cs ac) (hR : Right cs ac) (hg : SB w0 gA (3 * (graphP cs ac).length) (cellsE dpC (graphP cs ac))) (hq : (graphP cs ac).length = q) (h64 : most ≤ 256) : ∀ f, MoreC w0 A n c B m d gA gc q cs ac most f
  | 0 => fun w K oA oc k F vF hb hL hK hf hs hF hm hd => by
    have hn : n ≤ 4096 := by rw [← h0.cl]; exact hR.lc
    rcases Nat.lt_or_ge F.length most with hlt | hge
    · have e : k = n := by omega
      subst e
      exact wrMoreFull h0 hn hb hK hs hF hlt h64
    · exact wrMoreEnough h0 hb hF (Nat.le_antisymm hm hge) h64
  | f + 1 => fun w K oA oc k F vF hb hL hK hf hs hF hm hd => by
    rcases Nat.lt_or_ge F.length most with hlt | hge
    · exact wrMoreStep h0 hR hg hq h64 (wrMore h0 hR hg hq h64 f) hb hL hK hf hs hF hlt hd
    · exact wrMoreEnough h0 hb hF (Nat.le_antisymm hm hge) h64
end
theorem FL.lower {base b0 : Nat} {w : World} {v : Value} {F : List (List Int)} (h : FL base w v F) (hb : b0 ≤ base) : FL b0 w v F := by
  obtain ⟨vs, h1, h2⟩ := h
  exact ⟨vs, h1.lower hb, h2⟩
section
variable {w : World} {A B : Option Addr} {n c m d most : Nat} {cs : List Int} {ac : List Ac} {M : List Nat}
/-- All orders of a right history, as numbers. -/
def allN (cs : List Int) (ac : List Ac) (n : Nat) : List (List Int) := (allP (edgeH cs ac) n n []).map (numsP cs)
set_option maxHeartbeats 64000000 in
theorem wrOrders (h : Hist w A n c B m d cs ac) (hR : Right cs ac) (hM : FillP (edgeH cs ac) n [] M) (h64 : most ≤ 256) :
    Calls Tryz.prog 10 #[histV A n c B m d, .int .i64 (most : Nat)] w fun e w' => ∃ v, e = .returned v ∧ FL w.heap.size w' v (if M.length = n then (allN cs ac n).take most else []) ∧ Below w.heap.size w w' := by
  obtain ⟨W0, hB⟩ := h.box
  have HB := Lib.hid hB
  have HW := Lib.hid hB.eq
  have x0 := hB.x0
  have x1 := hB.x1
  have hcl : cs.length = n := h.cl
  have hn : n ≤ 4096 := by rw [← hcl]; exact hR.lc
  have hm : m ≤ 4096 := by rw [← h.al]; exact hR.la
  have CO := Lib.hid (wrOrder hB.h hR hM)
  have CG := Lib.hid (fun W (hW : Below W0.heap.size W0 W) => wrGraph (hB.h.gw hW) hn hm)
  have CM := Lib.hid (fun W (hW : Below W0.heap.size W0 W) (gA : Option Addr) (gc : Nat) (hg : SB W gA (3 * (graphP cs ac).length) (cellsE dpC (graphP cs ac))) => wrMore (gc := gc) (hB.h.gw hW) hR hg rfl h64 n W [] none 0 0 [] (.slice none 0 0) (Below.refl _ _) .nil rfl (by omega) (SB.empty _ _) (FL.nil _ _) (Nat.zero_le _) (fun h => absurd h (Nat.lt_irrefl _)))
  unfold histV at CO CG CM ⊢
  clear h hB hR hcl hn hm hM
  by_cases hMl : M.length = n
  · rw [decide_eq_true hMl] at CO
    rw [if_pos hMl]
    clear hMl
    go_enter Tryz.func10, Tryz.ntmps10
    go_upto_region 1 with fail
    rw [HW.out]
    go_upto_region 4 with (go_at_call 8; go_loud (refine CO.out.mono ?_; rintro e w1 ⟨v1, rfl, s1, b1⟩; have B1 := Lib.hid b1; have y0 := keep_below x0 b1; have y1 := keep_below x1 b1; clear b1 s1))
    clear x0 x1
    have S0 : w1.cell? ⟨w.heap.size, 0, none⟩ = some (.slice A n c) ∧ w1.cell? ⟨w.heap.size, 1, none⟩ = some (.slice B m d) := ⟨y0, y1⟩
    have BD := Lib.hid (B1.out.trans ((below_drew11 w1).mono B1.out.size))
    have S2 : ∀ W : World, Below w1.heap.size w1.drew W → W.cell? ⟨w.heap.size, 0, none⟩ = some (.slice A n c) ∧ W.cell? ⟨w.heap.size, 1, none⟩ = some (.slice B m d) := fun W hW => ⟨keep_below (w := w1.drew) y0 hW, keep_below (w := w1.drew) y1 hW⟩
    go_region_held3 (fun W => W.cell? ⟨w.heap.size, 0, none⟩ = some (.slice A n c) ∧ W.cell? ⟨w.heap.size, 1, none⟩ = some (.slice B m d)) (first | exact S0 | exact S2 _ B5.out | exact S2 _ B2.out) (first
      | (go_at_call 20; go_loud (refine (CG.out w1.drew BD.out).mono ?_; rintro e w2 ⟨v2, rfl, dl2, b2⟩; obtain ⟨gA, gc, rfl, hg, -, -⟩ := dl2; have B2 := Lib.hid (show Below w1.heap.size w1.drew w2 from b2); have HG := Lib.hid hg; have B3 := Lib.hid (BD.out.trans (b2.mono BD.out.size)); clear b2 hg))
      | (go_at_call 31; go_loud (refine (CM.out w2 B3.out gA gc HG.out).mono ?_; rintro e w3 ⟨v3, rfl, f3, o3, q3⟩; have F3 := Lib.hid f3; have B5 := Lib.hid (show Below w1.heap.size w1.drew w3 from B2.out.trans ((o3.below (Nat.le_refl _) (fun i hi e => by cases e)).mono B2.out.size)); have B4 := Lib.hid (B3.out.trans ((o3.below (Nat.le_refl _) (fun i hi e => by cases e)).mono B3.out.size)); clear f3 o3 q3)))
    all_goals go_wp2
    all_goals go_ret
    all_goals exact ⟨_, rfl, (show FL w2.heap.size w3 v3 ((allN cs ac n).take most) from F3.out).lower (Nat.le_trans HB.out.below.size B3.out.size), below_next HB.out.below B4.out⟩
  · rw [decide_eq_false hMl] at CO
    rw [if_neg hMl]
    clear hMl CG CM
    go_enter Tryz.func10, Tryz.ntmps10
    go_upto_region 1 with fail
    rw [HW.out]
    go_wp2_with (go_at_call 8; go_loud (refine CO.out.mono ?_; rintro e w1 ⟨v1, rfl, s1, b1⟩; have B1 := Lib.hid b1; clear b1 s1))
    go_ret
    exact ⟨_, rfl, FL.nil _ _, below_next HB.out.below B1.out⟩
end
end Go.Proofs.YtnpeankmmojebaaGreatDoor

/- Layer 11: a range over a function whose iterator makes memory of its own. -/
namespace Go.Proofs.YtnpeankmmojebaaGreatDoor
set_option maxRecDepth 100000
open Go.RowKit

/-- What an iterator's value promises, where the iterator has memory of its own making. -/
def HandsB {α : Type} (F : Fence) (n : Nat) (P : Program) (g : Nat) (lb : Array Value) (encs : α → Array Value) (ok : List α → α → World → Prop) (keep : World → World → Prop)
    (all part : List α → Prop) (w : World) : Prop :=
  ∀ (l : Nat) (J Jx : List α → World → Prop) (W : World), Below w.heap.size w W → (∀ s, Stays (J s)) → (∀ s, Stays (Jx s)) → (∀ s A B, J s A → Out (fun k => W.heap.size ≤ k) A B → J s B) →
    (∀ pre x A, J pre A → ok pre x A → YieldAt F (n - 1) P l (encs x) A fun e B =>
      (e = .returned (.bool true) ∧ J (pre ++ [x]) B ∧ keep A B) ∨ (e = .returned (.bool false) ∧ Jx (pre ++ [x]) B)) →
    J [] W →
    CallsIn F n P g (#[.func (.yield l) #[] #[]] ++ lb) W fun e B => (∃ v, e = .returned v) ∧ ((∃ xs, all xs ∧ J xs B) ∨ (∃ pre, part pre ∧ Jx pre B))
variable {F : Fence} {n : Nat} {P : Program}

theorem wp_handsB {α : Type} {g : Operand} {ps : Array Tmp} {assign body : Code} {Q : Exit → Act → World → Prop} {a : Act} {w : World}
    (hro : F.round = none) (h1 : 1 ≤ n) {gf : Nat} {lb : Array Value} (hg : a.eval g = .func (.func gf) #[] lb) (hFg : F.fn gf) (eg : ∀ args w, (callFunc gf args).run P w = .ok (.enter gf args) w)
    {encs : α → Array Value} {ok : List α → α → World → Prop} {keep : World → World → Prop} {all part : List α → Prop} (hs : HandsB F (n - 1) P gf lb encs ok keep all part w)
    (hkt : ∀ {A B C : World}, keep A B → keep B C → keep A C) (hkb : ∀ (A : World) (l : Nat) (o o' : Obj), w.heap.size ≤ l → A.heap[l]? = some o → o.isCells = false → keep A (A.putObj l o'))
    (hps : ∀ x, (encs x).size = ps.size) (I : List α → World → Prop) (Ix : Code → List α → World → Prop)
    (hI : ∀ s, Stays (I s)) (hI' : ∀ s, Turns w.heap.size (I s)) (hIT : ∀ s A B, I s A → Out (fun k => w.heap.size + 2 ≤ k) A B → I s B) (hX : ∀ c s, Stays (Ix c s)) (hX' : ∀ c s, Turns w.heap.size (Ix c s)) (hO : ∀ s x, Turns w.heap.size (ok s x)) (h0 : I [] w) (hkB : ∀ (A B : World), Below A.heap.size A B → keep A B) (hOB : ∀ s x, Stays (ok s x)) (Ax : α → Act → World → Prop) (hAx : ∀ x a', Turns w.heap.size (Ax x a'))
    (hassign : ∀ (l : Nat) (x : α) (W : World) (K : Act → World → Prop), w.heap.size ≤ W.heap.size → (∀ a' W', Ax x a' W' → Below W.heap.size W W' → K a' W') →
      assign.wpIn (F.inRound l) (n - 1 - 1) P (Exit.then K (fun _ _ _ => False)) { tmps := (ps.zip (encs x)).foldl (fun t (p, v) => t.setIfInBounds p v) a.tmps, defers := [] } W)
    (hbody : ∀ (l : Nat) (pre : List α) (x : α) (a' : Act) (W : World), w.heap.size ≤ W.heap.size → Ax x a' W → I pre W → ok pre x W → body.wpIn (F.inRound l) (n - 1 - 1) P (ownPostK keep I Ix (pre ++ [x]) W) a' W)
    (hdone : ∀ (D : Nat) (xs : List α) (W : World), w.heap.size ≤ D → all xs → I xs W → W.heap[D]? = some (.deferred (some [])) → Q .normal { a with defers := { target := .collected D, args := #[] } :: a.defers } W)
    (hstop : ∀ (D : Nat) (c : Code) (pre : List α) (W : World), w.heap.size ≤ D → part pre → Ix c pre W → W.heap[D]? = some (.deferred (some [])) → c.wpIn F n P Q { a with defers := { target := .collected D, args := #[] } :: a.defers } W) :
    (Code.rangeFunc g ps assign body).wpIn F n P Q a w := by
  refine wpIn_rangeFunc fun fn hfn => ?_
  rw [hro]
  obtain ⟨D, hD⟩ : ∃ D, D = w.heap.size := ⟨_, rfl⟩
  obtain ⟨W1, hW1⟩ : ∃ W1, W1 = (w.alloc (.deferred (some []))).alloc (.loop { state := .ready, pending := none, fn, tmps := a.tmps, params := ps, assign, body, defers := w.heap.size }) := ⟨_, rfl⟩
  obtain ⟨rc, hrc⟩ : ∃ rc : LoopState → Option Code → Obj, rc = fun st pe => .loop { state := st, pending := pe, fn, tmps := a.tmps, params := ps, assign, body, defers := w.heap.size } := ⟨_, rfl⟩
  have hne : ∀ st pe, (rc st pe).isCells = false := fun st pe => by rw [hrc]; rfl
  have b1 : Below w.heap.size w W1 := by rw [hW1]; exact ((Below.refl _ w).alloc (Nat.le_refl _) _).alloc (by simp) _
  have q1 : W1.heap[D + 1]? = some (rc .ready none) := by
    rw [hW1, hrc, hD]
    have := World.alloc_heap_new (w.alloc (.deferred (some []))) (.loop { state := .ready, pending := none, fn, tmps := a.tmps, params := ps, assign, body, defers := w.heap.size })
    rwa [World.size_alloc] at this
  have q2 : W1.heap[D]? = some (.deferred (some [])) := by
    rw [hW1, hD]
    exact (Below.heap_alloc _ _ _ (by simp)).trans (World.alloc_heap_new w _)
  have hsW1 : W1.heap.size = w.heap.size + 2 := by rw [hW1]; simp
  refine ⟨w.heap.size + 1, [{ target := .collected w.heap.size, args := #[] }], W1, { target := .fn (.func gf) lb, args := #[.func (.yield (w.heap.size + 1)) #[] #[]] }, W1, gf,
    #[.func (.yield (w.heap.size + 1)) #[] #[]] ++ lb, W1, by rw [hW1]; exact run_enterLoop_outer _ _ _ _ _, ?_, ?_, ?_, fun _ => h1, ?_⟩
  · simp only [resolve, hg]
    simp [go_sem]
  · intro f' hf'
    simp [Target.leads] at hf'
    subst hf'
    exact hFg
  · simp [invoke, go_sem, eg]
  rw [← hD]
  refine (hs (D + 1) (fun pre W => I pre W ∧ W.heap[D + 1]? = some (rc .ready none) ∧ W.heap[D]? = some (.deferred (some [])))
    (fun pre W => ∃ c, Ix c pre W ∧ W.heap[D + 1]? = some (rc .done (some c)) ∧ W.heap[D]? = some (.deferred (some []))) W1 b1
    (fun s A B h hb => ⟨hI s A B h.1 hb, stays_at A B h.2.1 hb, stays_at A B h.2.2 hb⟩)
    (fun s A B h hb => by obtain ⟨c, x, y, z⟩ := h; exact ⟨c, hX c s A B x hb, stays_at A B y hb, stays_at A B z hb⟩)
    (fun s A B h ho => ⟨hIT s A B h.1 (ho.mono fun i _ e => by rw [← hsW1]; exact e), (ho.block (D + 1) (Array.getElem?_eq_some_iff.1 h.2.1).1 (fun e => by have e : W1.heap.size ≤ D + 1 := e; omega)).trans h.2.1, (ho.block D (Array.getElem?_eq_some_iff.1 h.2.2).1 (fun e => by have e : W1.heap.size ≤ D := e; omega)).trans h.2.2⟩)
    ?_ ⟨hI _ _ _ h0 b1, q1, q2⟩).mono ?_
  · rintro pre x A ⟨i1, r1, d1⟩ ho
    have hlt : D + 1 < A.heap.size := (Array.getElem?_eq_some_iff.1 r1).1
    have y := run_yield (P := P) (args := encs x) (by rw [r1, hrc]) (hps x)
    have szA : w.heap.size ≤ A.heap.size := by omega
    refine ⟨fn, _, assign, body, y, roundIn_of_wpIn hfn (hassign _ x A _ szA fun a' A' hax hbl => ?_)⟩
    have k0 : keep A A' := hkB _ _ hbl
    replace i1 := hI _ _ _ i1 hbl
    replace r1 := stays_at _ _ r1 hbl
    replace d1 := stays_at _ _ d1 hbl
    replace ho := hOB _ _ _ _ ho hbl
    have hlt : D + 1 < A'.heap.size := (Array.getElem?_eq_some_iff.1 r1).1
    refine ⟨_, run_beginRound (by rw [r1, hrc]) rfl, ?_⟩
    obtain ⟨A2, hA2⟩ : ∃ A2, A2 = A'.putObj (D + 1) (rc .busy none) := ⟨_, rfl⟩
    have e2 : A'.putObj (D + 1) (.loop { state := .busy, pending := none, fn, tmps := a.tmps, params := ps, assign, body, defers := w.heap.size }) = A2 := by rw [hA2, hrc]
    have r2 : A2.heap[D + 1]? = some (rc .busy none) := by rw [hA2]; exact World.putObj_heap_same hlt
    have d2 : A2.heap[D]? = some (.deferred (some [])) := by rw [hA2]; exact (World.putObj_heap_other (by omega)).trans d1
    have x2 : Ax x a' A2 := by rw [hA2]; exact hAx _ _ _ _ _ _ hax (by omega) r1 (hne _ _)
    have k2 : keep A' A2 := by rw [hA2]; exact hkb _ _ _ _ (by omega) r1 (hne _ _)
    have i2 : I pre A2 := by rw [hA2]; exact hI' _ _ _ _ _ i1 (by omega) r1 (hne _ _)
    have o2 : ok pre x A2 := by rw [hA2]; exact hO _ _ _ _ _ _ ho (by omega) r1 (hne _ _)
    have s2 : w.heap.size ≤ A2.heap.size := by have := (Array.getElem?_eq_some_iff.1 r2).1; omega
    have fin : ∀ (jump : Option Code) (B : World), KeepsOthers A2 B → ∃ C, C = B.putObj (D + 1) (rc (if jump.isNone then .ready else .done) jump) ∧
        (Instr.endRound (D + 1) jump).run P B = .ok (.bool jump.isNone) C ∧ B.heap[D + 1]? = some (rc .busy none) ∧ C.heap[D + 1]? = some (rc (if jump.isNone then .ready else .done) jump) ∧ C.heap[D]? = some (.deferred (some [])) := by
      intro jump B hk
      have r3 := hk.same _ _ r2 (hne _ _)
      have d3 := hk.same _ _ d2 rfl
      refine ⟨_, rfl, ?_, r3, World.putObj_heap_same (Array.getElem?_eq_some_iff.1 r3).1, (World.putObj_heap_other (by omega)).trans d3⟩
      have := run_endRound (P := P) jump (by rw [r3, hrc])
      rw [this, hrc]
    have leave : ∀ (c : Code) (B : World), KeepsOthers A2 B → Ix c (pre ++ [x]) B → ∃ v C, (Instr.endRound (D + 1) (some c)).run P B = .ok v C ∧
        ((Ending.returned v = .returned (.bool true) ∧ (I (pre ++ [x]) C ∧ C.heap[D + 1]? = some (rc .ready none) ∧ C.heap[D]? = some (.deferred (some []))) ∧ keep A C) ∨
         (Ending.returned v = .returned (.bool false) ∧ ∃ c, Ix c (pre ++ [x]) C ∧ C.heap[D + 1]? = some (rc .done (some c)) ∧ C.heap[D]? = some (.deferred (some [])))) := by
      intro c B hk hx
      obtain ⟨C, hC, hr, r3, r4, d4⟩ := fin (some c) B hk
      exact ⟨_, _, hr, .inr ⟨rfl, c, by rw [hC]; exact hX' _ _ _ _ _ _ hx (by omega) r3 (hne _ _), r4, d4⟩⟩
    show body.wpIn (F.inRound (D + 1)) (n - 1 - 1) P _ _ _
    refine wpIn_mono (Q := ownPostK keep I Ix (pre ++ [x]) A2) (by rw [← e2] at i2 o2 s2 x2 ⊢; exact hbody _ pre x _ _ s2 x2 i2 o2) ?_
    rintro e a3 B hp
    cases e with
    | normal =>
      obtain ⟨hk, kp, i3⟩ := hp
      obtain ⟨C, hC, hr, r3, r4, d4⟩ := fin none B hk
      exact ⟨_, _, hr, .inl ⟨rfl, ⟨by rw [hC]; exact hI' _ _ _ _ _ i3 (by omega) r3 (hne _ _), r4, d4⟩, hkt k0 (hkt (hkt k2 kp) (by rw [hC]; exact hkb _ _ _ _ (by omega) r3 (hne _ _)))⟩⟩
    | ret => exact leave .ret B hp.1 hp.2
    | exit id => exact leave (.exit id) B hp.1 hp.2
    | goto t => exact leave (.goto t) B hp.1 hp.2
    | panic ch => exact hp.elim
    | outgrown => exact hp.elim
  · rintro e B ⟨⟨v, rfl⟩, (⟨xs, hA, i1, r1, d1⟩ | ⟨pre, hp, c, i1, r1, d1⟩)⟩
    · refine ⟨none, _, run_endLoop (by rw [r1, hrc]) (by simp), ?_⟩
      rw [hD] at r1 d1 ⊢
      exact hdone _ xs _ (Nat.le_refl _) hA (hI' _ _ _ _ _ i1 (by omega) r1 (hne _ _)) ((World.putObj_heap_other (by omega)).trans d1)
    · refine ⟨some c, _, run_endLoop (by rw [r1, hrc]) (by simp), ?_⟩
      rw [hD] at r1 d1 ⊢
      exact hstop _ c pre _ (Nat.le_refl _) hp (hX' _ _ _ _ _ _ i1 (by omega) r1 (hne _ _)) ((World.putObj_heap_other (by omega)).trans d1)


/-- A block of one cell. -/
def Vx (X : World) (b : Nat) (v : Value) (t : TypeId) : Prop := X.heap[b]? = some (.cells #[v] t (0, 0))
section
variable {X Y : World} {b b2 : Nat} {v : Value} {t : TypeId}
theorem Vx.gw (h : Vx X b v t) (g : Below X.heap.size X Y) : Vx Y b v t := (g.block b (Array.getElem?_eq_some_iff.1 h).1).trans h
theorem Vx.c (h : Vx X b v t) : X.cell? ⟨b, 0, none⟩ = some v := by rw [cell_of_row _ _ _ _ _ _ h]; rfl
theorem Vx.f (h : Vx X b v t) : X.frozen? ⟨b, 0, none⟩ = false := by unfold Vx at h; simp [World.frozen?, h]
theorem Vx.lt (h : Vx X b v t) : b < X.heap.size := (Array.getElem?_eq_some_iff.1 h).1
theorem Vx.set (h : Vx X b v t) (u : Value) : Vx (X.setCell ⟨b, 0, none⟩ u) b u t := by
  unfold Vx at h ⊢
  simp [World.setCell, Array.getElem?_modify, h]
theorem Vx.far (h : Vx X b v t) (hne : b ≠ b2) (u : Value) : Vx (X.setCell ⟨b2, 0, none⟩ u) b v t := (Below.heap_setCell _ _ _ _ hne).trans h
theorem Vx.turn {l : Nat} {o : Obj} (h : Vx X b v t) (o' : Obj) (hl : X.heap[l]? = some o) (hc : o.isCells = false) : Vx (X.putObj l o') b v t :=
  (World.putObj_heap_other (fun e => by subst e; unfold Vx at h; rw [h] at hl; cases hl; cases hc)).trans h
theorem Vx.new (w : World) (v : Value) (t : TypeId) : Vx (w.alloc (.cells #[v] t)) w.heap.size v t := heap_alloc_new w _
end
end Go.Proofs.YtnpeankmmojebaaGreatDoor

/- Layer 11: the program's Orders: the function value that it makes, and what that value promises. -/
namespace Go.Proofs.YtnpeankmmojebaaGreatDoor
set_option maxRecDepth 100000
open Go.RowKit Go.Shelf

attribute [local go_sem] Oper.semAt_some

theorem YieldAt.anyDepthO {m : Nat} (m' : Nat) {P : Program} {l : Nat} {args : Array Value} {W : World} {R : Ending → World → Prop} (h : YieldAt Fence.wide m P l args W R) : YieldAt Fence.wide m' P l args W R := by
  obtain ⟨fn, tmps, assign, body, hy, hR⟩ := h
  exact ⟨fn, tmps, assign, body, hy, ⟨hR.1, fun c cs _ => hR.2 c cs (room_wide _)⟩⟩
/-- What is handed on: an order, the list that says it. -/
def encO (x : List Int × Value) : Array Value := #[x.2]
def okO (X : List (List Int)) (n : Nat) (pre : List (List Int × Value)) (x : List Int × Value) (W : World) : Prop := X[pre.length]? = some x.1 ∧ ∃ A c, x.2 = .slice A n c ∧ SB W A n (numC x.1)
/-- What a round may touch: the variable p, and blocks from N on that are no cells. -/
def TouchO (p N : Nat) (A : World) (k : Nat) : Prop := k = p ∨ N ≤ k ∧ ∃ o, A.heap[k]? = some o ∧ o.isCells = false
def keepO (p N : Nat) (A B : World) : Prop := Out (TouchO p N A) A B
section
variable {p N : Nat} {A B C : World}
theorem keepO_trans (h : keepO p N A B) (k : keepO p N B C) : keepO p N A C := Out.trans h k fun i hi e => by
  rcases e with e | ⟨h1, o, h2, h3⟩
  · exact .inl e
  · refine Classical.byContradiction fun hno => ?_
    have hb := h.block i hi hno
    rw [h2] at hb
    exact hno (.inr ⟨h1, o, hb.symm, h3⟩)
theorem keepO_below (hb : Below A.heap.size A B) : keepO p N A B := Out.of_below hb _
theorem keepO_turn {l : Nat} {o : Obj} (o' : Obj) (hl : N ≤ l) (ho : A.heap[l]? = some o) (hc : o.isCells = false) : keepO p N A (A.putObj l o') :=
  ⟨rfl, rfl, rfl, by simp [World.putObj], fun k _ hn => World.putObj_heap_other (fun e => hn (by subst e; exact .inr ⟨hl, o, ho, hc⟩))⟩
end
section
variable {p N gw gb b1 b2 n : Nat} {ns : List Int} {E : Eg} {L : List Nat} {A B : World}
theorem NetW.up (h : NetW A gb b1 n ns E) (hb : b1 ≤ b2) : NetW A gb b2 n ns E := by
  obtain ⟨go, gi, base, An, cn, vo, vi, k, h1, h2⟩ := h
  exact ⟨go, gi, base, An, cn, vo, vi, k, Nat.le_trans h1 hb, fun i v q hv hq => Nat.lt_of_lt_of_le (h2 i v q hv hq) hb⟩
theorem NetW.keptO (h : NetW A gb b1 n ns E) (hk : keepO p N A B) (hp : b1 ≤ p) (hN : b1 ≤ N) : NetW B gb b1 n ns E := by
  have h2 : Out (fun k => b1 ≤ k) A B := Out.mono hk fun i _ e => e.elim (fun q => by omega) fun q => Nat.le_trans hN q.1
  exact h.out h2
theorem WkAt.keptO (h : WkAt A gw gb b2 n ns E L) (hn : NetW B gb b1 n ns E) (hb : b1 ≤ b2) (hk : keepO p N A B) (hp : p < b2) : WkAt B gw gb b2 n ns E L := by
  obtain ⟨gt, gr, vl, hM, -⟩ := h
  have key : ∀ k cs t fr, b2 ≤ k → A.heap[k]? = some (.cells cs t fr) → ¬ TouchO p N A k := fun k cs t fr h1 h2 e => by
    rcases e with e | ⟨-, o, h3, h4⟩
    · omega
    · rw [h2] at h3; cases h3; cases h4
  have own : ∀ (E : SEl) (v : Value) (m : Nat) (vs : List Value) k, SO E b2 A v m vs → v.ownBlock = some k → ¬ TouchO p N A k := fun E v m vs k h1 h2 => by
    rcases h1.own.2 with ⟨e, -⟩ | ⟨g, cap, cur, e, h3, h4, -⟩
    · rw [e] at h2; cases h2
    · rw [e] at h2
      have e2 : g = k := by simpa [Value.ownBlock] using h2
      subst e2
      exact key g cur _ _ h3 h4
  obtain ⟨ws, k1, k2⟩ := hM.ready
  exact ⟨gt, gr, vl, hM.out hk (key gw _ _ _ hM.lo hM.row) (own _ _ _ _ gt hM.waits rfl) (own _ _ _ _ gr k2 rfl) (fun k hk => own _ _ _ _ k hM.laid hk), hn.up hb⟩
end
section
variable {w : World} {A B : Option Addr} {n c m d : Nat} {cs : List Int} {ac : List Ac}
set_option maxHeartbeats 16000000 in
theorem wsOrders (h : Hist w A n c B m d cs ac) (hR : Right cs ac) :
    Calls Tryz.prog 11 #[histV A n c B m d] w fun e w' => ∃ bx gb, e = .returned (.func (.func 33) #[] #[.pointer (some ⟨bx, 0, none⟩)]) ∧ Vx w' bx (.pointer (some ⟨gb, 0, none⟩)) 62 ∧ NetAt w' gb n (riseP cs) (edgeH cs ac) ∧ Below w.heap.size w w' := by
  obtain ⟨W0, hB⟩ := h.box
  have HB := Lib.hid hB
  have HW := Lib.hid hB.eq
  have x0 := hB.x0
  have x1 := hB.x1
  have CC := Lib.hid (wsCheck hB.h)
  rw [errH_ok hR] at CC
  have HR := Lib.hid hR
  unfold histV at CC ⊢
  clear h hB hR
  go_enter Tryz.func11, Tryz.ntmps11
  go_upto_region 1 with fail
  rw [HW.out]
  go_upto_region 3 with (go_at_call 22; go_loud (refine CC.out.mono ?_; rintro e w1 ⟨rfl, b1⟩; have B1 := Lib.hid b1; have CN := Lib.hid (wsNewNet (HB.out.h.gw b1) HR.out); have y0 := keep_below x0 b1; have y1 := keep_below x1 b1; clear b1))
  unfold histV at CN
  go_upto_region 4 with (go_at_call 26; go_loud (refine CN.out.mono ?_; rintro e w2 ⟨gb, rfl, na, b2⟩; have B2 := Lib.hid b2; have NA := Lib.hid na; clear na b2))
  clear x0 x1
  obtain ⟨W3, hW3⟩ : ∃ W, w2.alloc (.cells #[.pointer (some ⟨gb, 0, none⟩)] 62) = W := ⟨_, rfl⟩
  have HW3 := Lib.hid hW3
  have b3 : Below w2.heap.size w2 W3 := hW3 ▸ alloc_below11 w2 _
  have V3 := Lib.hid (show Vx W3 w2.heap.size (.pointer (some ⟨gb, 0, none⟩)) 62 from hW3 ▸ Vx.new w2 _ _)
  have NA3 := Lib.hid (NA.out.below b3)
  have B3 := Lib.hid b3
  clear hW3 b3
  go_wp2
  rw [HW3.out]
  go_ret
  exact ⟨w2.heap.size, gb, rfl, V3.out, NA3.out, below_next (below_next (below_next HB.out.below B1.out) B2.out) B3.out⟩
end
end Go.Proofs.YtnpeankmmojebaaGreatDoor
