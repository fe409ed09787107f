/- A range over a function that lays each element in memory of its own making: the law of the statement, with what is known of an element where it is handed on. -/
import Derived.RangeFuncFrom
set_option linter.unusedVariables false
namespace Go.Proofs.YtagangneoibbcaaDoor
set_option maxRecDepth 100000
open Go.RowKit

/-- New memory alone does not unsay it. -/
def Stays (I : World → Prop) : Prop := ∀ A B, I A → Below A.heap.size A B → I B
/-- A turn of a block from b on that is no cells does not unsay it. -/
def Turns (b : Nat) (I : World → Prop) : Prop := ∀ A l o o', I A → b ≤ l → A.heap[l]? = some o → o.isCells = false → I (A.putObj l o')

/-- What an iterator's value promises: an element is there ('ok') where it is handed on; it goes on only behind a round that kept what it needs ('keep'). -/
def Hands {α : Type} (F : Fence) (n : Nat) (P : Program) (g : Nat) (lb : Array Value) (encs : α → Array Value) (ok : List α → α → World → Prop) (keep : World → World → Prop)
    (all part : List α → Prop) (w : World) : Prop :=
  ∀ (l : Nat) (J Jx : List α → World → Prop) (W : World), Below w.heap.size w W → (∀ s, Stays (J s)) → (∀ s, Stays (Jx s)) →
    (∀ pre x A, J pre A → ok pre x A → YieldAt F (n - 1) P l (encs x) A fun e B =>
      (e = .returned (.bool true) ∧ J (pre ++ [x]) B ∧ keep A B) ∨ (e = .returned (.bool false) ∧ Jx (pre ++ [x]) B)) →
    J [] W →
    CallsIn F n P g (#[.func (.yield l) #[] #[]] ++ lb) W fun e B => (∃ v, e = .returned v) ∧ ((∃ xs, all xs ∧ J xs B) ∨ (∃ pre, part pre ∧ Jx pre B))

theorem stays_at {l : Nat} {o : Obj} : Stays (fun W => W.heap[l]? = some o) := fun A B h hb => (hb.block l (Array.getElem?_eq_some_iff.1 h).1).trans h
theorem others_of_below {A B : World} (h : Below A.heap.size A B) : KeepsOthers A B := ⟨h.size, fun k _ hk _ => (h.block k (Array.getElem?_eq_some_iff.1 hk).1).trans hk⟩

variable {F : Fence} {n : Nat} {P : Program}

theorem wp_hands {α : Type} {g : Operand} {ps : Array Tmp} {assign body : Code} {Q : Exit → Act → World → Prop} {a : Act} {w : World}
    (hro : F.round = none) (h1 : 1 ≤ n) {gf : Nat} {lb : Array Value} (hg : a.eval g = .func (.func gf) #[] lb) (hFg : F.fn gf) (eg : ∀ args w, (callFunc gf args).run P w = .ok (.enter gf args) w)
    {encs : α → Array Value} {ok : List α → α → World → Prop} {keep : World → World → Prop} {all part : List α → Prop} (hs : Hands F (n - 1) P gf lb encs ok keep all part w)
    (hkt : ∀ {A B C : World}, keep A B → keep B C → keep A C) (hkb : ∀ (A : World) (l : Nat) (o o' : Obj), w.heap.size ≤ l → A.heap[l]? = some o → o.isCells = false → keep A (A.putObj l o'))
    (hps : ∀ x, (encs x).size = ps.size) (I : List α → World → Prop) (Ix : Code → List α → World → Prop)
    (hI : ∀ s, Stays (I s)) (hI' : ∀ s, Turns w.heap.size (I s)) (hX : ∀ c s, Stays (Ix c s)) (hX' : ∀ c s, Turns w.heap.size (Ix c s)) (hO : ∀ s x, Turns w.heap.size (ok s x)) (h0 : I [] w) (a₁ : α → Act)
    (hassign : ∀ (l : Nat) (x : α) (W : World) (K : Act → World → Prop), K (a₁ x) W →
      assign.wpIn (F.inRound l) (n - 1 - 1) P (Exit.then K (fun _ _ _ => False)) { tmps := (ps.zip (encs x)).foldl (fun t (p, v) => t.setIfInBounds p v) a.tmps, defers := [] } W)
    (hbody : ∀ (l : Nat) (pre : List α) (x : α) (W : World), w.heap.size ≤ W.heap.size → I pre W → ok pre x W → body.wpIn (F.inRound l) (n - 1 - 1) P (ownPostK keep I Ix (pre ++ [x]) W) (a₁ x) W)
    (hdone : ∀ (D : Nat) (xs : List α) (W : World), w.heap.size ≤ D → all xs → I xs W → W.heap[D]? = some (.deferred (some [])) → Q .normal { a with defers := { target := .collected D, args := #[] } :: a.defers } W)
    (hstop : ∀ (D : Nat) (c : Code) (pre : List α) (W : World), w.heap.size ≤ D → part pre → Ix c pre W → W.heap[D]? = some (.deferred (some [])) → c.wpIn F n P Q { a with defers := { target := .collected D, args := #[] } :: a.defers } W) :
    (Code.rangeFunc g ps assign body).wpIn F n P Q a w := by
  refine wpIn_rangeFunc fun fn hfn => ?_
  rw [hro]
  obtain ⟨D, hD⟩ : ∃ D, D = w.heap.size := ⟨_, rfl⟩
  obtain ⟨W1, hW1⟩ : ∃ W1, W1 = (w.alloc (.deferred (some []))).alloc (.loop { state := .ready, pending := none, fn, tmps := a.tmps, params := ps, assign, body, defers := w.heap.size }) := ⟨_, rfl⟩
  obtain ⟨rc, hrc⟩ : ∃ rc : LoopState → Option Code → Obj, rc = fun st pe => .loop { state := st, pending := pe, fn, tmps := a.tmps, params := ps, assign, body, defers := w.heap.size } := ⟨_, rfl⟩
  have hne : ∀ st pe, (rc st pe).isCells = false := fun st pe => by rw [hrc]; rfl
  have b1 : Below w.heap.size w W1 := by rw [hW1]; exact ((Below.refl _ w).alloc (Nat.le_refl _) _).alloc (by simp) _
  have q1 : W1.heap[D + 1]? = some (rc .ready none) := by
    rw [hW1, hrc, hD]
    have := World.alloc_heap_new (w.alloc (.deferred (some []))) (.loop { state := .ready, pending := none, fn, tmps := a.tmps, params := ps, assign, body, defers := w.heap.size })
    rwa [World.size_alloc] at this
  have q2 : W1.heap[D]? = some (.deferred (some [])) := by
    rw [hW1, hD]
    exact (Below.heap_alloc _ _ _ (by simp)).trans (World.alloc_heap_new w _)
  refine ⟨w.heap.size + 1, [{ target := .collected w.heap.size, args := #[] }], W1, { target := .fn (.func gf) lb, args := #[.func (.yield (w.heap.size + 1)) #[] #[]] }, W1, gf,
    #[.func (.yield (w.heap.size + 1)) #[] #[]] ++ lb, W1, by rw [hW1]; exact run_enterLoop_outer _ _ _ _ _, ?_, ?_, ?_, fun _ => h1, ?_⟩
  · simp only [resolve, hg]
    simp [go_sem]
  · intro f' hf'
    simp [Target.leads] at hf'
    subst hf'
    exact hFg
  · simp [invoke, go_sem, eg]
  rw [← hD]
  refine (hs (D + 1) (fun pre W => I pre W ∧ W.heap[D + 1]? = some (rc .ready none) ∧ W.heap[D]? = some (.deferred (some [])))
    (fun pre W => ∃ c, Ix c pre W ∧ W.heap[D + 1]? = some (rc .done (some c)) ∧ W.heap[D]? = some (.deferred (some []))) W1 b1
    (fun s A B h hb => ⟨hI s A B h.1 hb, stays_at A B h.2.1 hb, stays_at A B h.2.2 hb⟩)
    (fun s A B h hb => by obtain ⟨c, x, y, z⟩ := h; exact ⟨c, hX c s A B x hb, stays_at A B y hb, stays_at A B z hb⟩)
    ?_ ⟨hI _ _ _ h0 b1, q1, q2⟩).mono ?_
  · rintro pre x A ⟨i1, r1, d1⟩ ho
    have hlt : D + 1 < A.heap.size := (Array.getElem?_eq_some_iff.1 r1).1
    have y := run_yield (P := P) (args := encs x) (by rw [r1, hrc]) (hps x)
    refine ⟨fn, _, assign, body, y, roundIn_of_wpIn hfn (hassign _ x A _ ⟨_, run_beginRound (by rw [r1, hrc]) rfl, ?_⟩)⟩
    obtain ⟨A2, hA2⟩ : ∃ A2, A2 = A.putObj (D + 1) (rc .busy none) := ⟨_, rfl⟩
    have e2 : A.putObj (D + 1) (.loop { state := .busy, pending := none, fn, tmps := a.tmps, params := ps, assign, body, defers := w.heap.size }) = A2 := by rw [hA2, hrc]
    have r2 : A2.heap[D + 1]? = some (rc .busy none) := by rw [hA2]; exact World.putObj_heap_same hlt
    have d2 : A2.heap[D]? = some (.deferred (some [])) := by rw [hA2]; exact (World.putObj_heap_other (by omega)).trans d1
    have k2 : keep A A2 := by rw [hA2]; exact hkb _ _ _ _ (by omega) r1 (hne _ _)
    have i2 : I pre A2 := by rw [hA2]; exact hI' _ _ _ _ _ i1 (by omega) r1 (hne _ _)
    have o2 : ok pre x A2 := by rw [hA2]; exact hO _ _ _ _ _ _ ho (by omega) r1 (hne _ _)
    have s2 : w.heap.size ≤ A2.heap.size := by have := (Array.getElem?_eq_some_iff.1 r2).1; omega
    have fin : ∀ (jump : Option Code) (B : World), KeepsOthers A2 B → ∃ C, C = B.putObj (D + 1) (rc (if jump.isNone then .ready else .done) jump) ∧
        (Instr.endRound (D + 1) jump).run P B = .ok (.bool jump.isNone) C ∧ B.heap[D + 1]? = some (rc .busy none) ∧ C.heap[D + 1]? = some (rc (if jump.isNone then .ready else .done) jump) ∧ C.heap[D]? = some (.deferred (some [])) := by
      intro jump B hk
      have r3 := hk.same _ _ r2 (hne _ _)
      have d3 := hk.same _ _ d2 rfl
      refine ⟨_, rfl, ?_, r3, World.putObj_heap_same (Array.getElem?_eq_some_iff.1 r3).1, (World.putObj_heap_other (by omega)).trans d3⟩
      have := run_endRound (P := P) jump (by rw [r3, hrc])
      rw [this, hrc]
    have leave : ∀ (c : Code) (B : World), KeepsOthers A2 B → Ix c (pre ++ [x]) B → ∃ v C, (Instr.endRound (D + 1) (some c)).run P B = .ok v C ∧
        ((Ending.returned v = .returned (.bool true) ∧ (I (pre ++ [x]) C ∧ C.heap[D + 1]? = some (rc .ready none) ∧ C.heap[D]? = some (.deferred (some []))) ∧ keep A C) ∨
         (Ending.returned v = .returned (.bool false) ∧ ∃ c, Ix c (pre ++ [x]) C ∧ C.heap[D + 1]? = some (rc .done (some c)) ∧ C.heap[D]? = some (.deferred (some [])))) := by
      intro c B hk hx
      obtain ⟨C, hC, hr, r3, r4, d4⟩ := fin (some c) B hk
      exact ⟨_, _, hr, .inr ⟨rfl, c, by rw [hC]; exact hX' _ _ _ _ _ _ hx (by omega) r3 (hne _ _), r4, d4⟩⟩
    show body.wpIn (F.inRound (D + 1)) (n - 1 - 1) P _ _ _
    refine wpIn_mono (Q := ownPostK keep I Ix (pre ++ [x]) A2) (by rw [← e2] at i2 o2 s2 ⊢; exact hbody _ pre x _ s2 i2 o2) ?_
    rintro e a3 B hp
    cases e with
    | normal =>
      obtain ⟨hk, kp, i3⟩ := hp
      obtain ⟨C, hC, hr, r3, r4, d4⟩ := fin none B hk
      exact ⟨_, _, hr, .inl ⟨rfl, ⟨by rw [hC]; exact hI' _ _ _ _ _ i3 (by omega) r3 (hne _ _), r4, d4⟩, hkt (hkt k2 kp) (by rw [hC]; exact hkb _ _ _ _ (by omega) r3 (hne _ _))⟩⟩
    | ret => exact leave .ret B hp.1 hp.2
    | exit id => exact leave (.exit id) B hp.1 hp.2
    | goto t => exact leave (.goto t) B hp.1 hp.2
    | panic ch => exact hp.elim
    | outgrown => exact hp.elim
  · rintro e B ⟨⟨v, rfl⟩, (⟨xs, hA, i1, r1, d1⟩ | ⟨pre, hp, c, i1, r1, d1⟩)⟩
    · refine ⟨none, _, run_endLoop (by rw [r1, hrc]) (by simp), ?_⟩
      rw [hD] at r1 d1 ⊢
      exact hdone _ xs _ (Nat.le_refl _) hA (hI' _ _ _ _ _ i1 (by omega) r1 (hne _ _)) ((World.putObj_heap_other (by omega)).trans d1)
    · refine ⟨some c, _, run_endLoop (by rw [r1, hrc]) (by simp), ?_⟩
      rw [hD] at r1 d1 ⊢
      exact hstop _ c pre _ (Nat.le_refl _) hp (hX' _ _ _ _ _ _ i1 (by omega) r1 (hne _ _)) ((World.putObj_heap_other (by omega)).trans d1)

end Go.Proofs.YtagangneoibbcaaDoor
