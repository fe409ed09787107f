import Derived.Test.YtlhpoliiojekeaaOver
import Derived.RangeFuncNested
import Derived.Test.YtlhpoliiojekeaaAsks
import Derived.Test.YtlhpoliiojekeaaKSC
import Derived.Test.YtlhpoliiojekeaaRef5B
import Derived.Test.YtlhpoliiojekeaaKOP
import Derived.Test.YtlhpoliiojekeaaLive
import Derived.Test.YtlhpoliiojekeaaAnewP
/- A range over a function, the loop's record told; and one within a round of another. -/
namespace Go.Proofs.Ytlhpoliiojekeaa
open Go.RowKit
variable {F : Fence} {n : Nat} {P : Program}

theorem wp_handsL {α : Type} {g : Operand} {ps : Array Tmp} {assign body : Code} {Q : Exit → Act → World → Prop} {a : Act} {w : World}
    (hro : F.round = none) (h1 : 1 ≤ n) {gf : Nat} {lb : Array Value} (hg : a.eval g = .func (.func gf) #[] lb) (hFg : F.fn gf) (eg : ∀ args w, (callFunc gf args).run P w = .ok (.enter gf args) w)
    {encs : α → Array Value} {ok : List α → α → World → Prop} {keep : World → World → Prop} {all part : List α → Prop} (hs : Hands F (n - 1) P gf lb encs ok keep all part w)
    (hkt : ∀ {A B C : World}, keep A B → keep B C → keep A C) (hkb : ∀ (A : World) (l : Nat) (o o' : Obj), w.heap.size ≤ l → A.heap[l]? = some o → o.isCells = false → keep A (A.putObj l o'))
    (hps : ∀ x, (encs x).size = ps.size) (I : List α → World → Prop) (Ix : Code → List α → World → Prop)
    (hI : ∀ s, Stays (I s)) (hI' : ∀ s, Turns w.heap.size (I s)) (hX : ∀ c s, Stays (Ix c s)) (hX' : ∀ c s, Turns w.heap.size (Ix c s)) (hO : ∀ s x, Turns w.heap.size (ok s x)) (h0 : I [] w) (a₁ : α → Act)
    (hassign : ∀ (l : Nat) (x : α) (W : World) (K : Act → World → Prop), K (a₁ x) W →
      assign.wpIn (F.inRound l) (n - 1 - 1) P (Exit.then K (fun _ _ _ => False)) { tmps := (ps.zip (encs x)).foldl (fun t (p, v) => t.setIfInBounds p v) a.tmps, defers := [] } W)
    (hbody : ∀ (l : Nat) (pre : List α) (x : α) (W : World), w.heap.size ≤ W.heap.size → w.heap.size ≤ l → (∃ r, W.heap[l]? = some (.loop r)) → I pre W → ok pre x W → body.wpIn (F.inRound l) (n - 1 - 1) P (ownPostK keep I Ix (pre ++ [x]) W) (a₁ x) W)
    (hdone : ∀ (D : Nat) (xs : List α) (W : World), w.heap.size ≤ D → all xs → I xs W → W.heap[D]? = some (.deferred (some [])) → Q .normal { a with defers := { target := .collected D, args := #[] } :: a.defers } W)
    (hstop : ∀ (D : Nat) (c : Code) (pre : List α) (W : World), w.heap.size ≤ D → part pre → Ix c pre W → W.heap[D]? = some (.deferred (some [])) → c.wpIn F n P Q { a with defers := { target := .collected D, args := #[] } :: a.defers } W) :
    (Code.rangeFunc g ps assign body).wpIn F n P Q a w := by
  refine wpIn_rangeFunc fun fn hfn => ?_
  rw [hro]
  obtain ⟨D, hD⟩ : ∃ D, D = w.heap.size := ⟨_, rfl⟩
  obtain ⟨W1, hW1⟩ : ∃ W1, W1 = (w.alloc (.deferred (some []))).alloc (.loop { state := .ready, pending := none, fn, tmps := a.tmps, params := ps, assign, body, defers := w.heap.size }) := ⟨_, rfl⟩
  obtain ⟨rc, hrc⟩ : ∃ rc : LoopState → Option Code → Obj, rc = fun st pe => .loop { state := st, pending := pe, fn, tmps := a.tmps, params := ps, assign, body, defers := w.heap.size } := ⟨_, rfl⟩
  have hne : ∀ st pe, (rc st pe).isCells = false := fun st pe => by rw [hrc]; rfl
  have b1 : Below w.heap.size w W1 := by rw [hW1]; exact ((Below.refl _ w).alloc (Nat.le_refl _) _).alloc (by simp) _
  have q1 : W1.heap[D + 1]? = some (rc .ready none) := by
    rw [hW1, hrc, hD]
    have := World.alloc_heap_new (w.alloc (.deferred (some []))) (.loop { state := .ready, pending := none, fn, tmps := a.tmps, params := ps, assign, body, defers := w.heap.size })
    rwa [World.size_alloc] at this
  have q2 : W1.heap[D]? = some (.deferred (some [])) := by
    rw [hW1, hD]
    exact (Below.heap_alloc _ _ _ (by simp)).trans (World.alloc_heap_new w _)
  refine ⟨w.heap.size + 1, [{ target := .collected w.heap.size, args := #[] }], W1, { target := .fn (.func gf) lb, args := #[.func (.yield (w.heap.size + 1)) #[] #[]] }, W1, gf,
    #[.func (.yield (w.heap.size + 1)) #[] #[]] ++ lb, W1, by rw [hW1]; exact run_enterLoop_outer _ _ _ _ _, ?_, ?_, ?_, fun _ => h1, ?_⟩
  · simp only [resolve, hg]
    simp [go_sem]
  · intro f' hf'
    simp [Target.leads] at hf'
    subst hf'
    exact hFg
  · simp [invoke, go_sem, eg]
  rw [← hD]
  refine (hs (D + 1) (fun pre W => I pre W ∧ W.heap[D + 1]? = some (rc .ready none) ∧ W.heap[D]? = some (.deferred (some [])))
    (fun pre W => ∃ c, Ix c pre W ∧ W.heap[D + 1]? = some (rc .done (some c)) ∧ W.heap[D]? = some (.deferred (some []))) W1 b1
    (fun s A B h hb => ⟨hI s A B h.1 hb, stays_at A B h.2.1 hb, stays_at A B h.2.2 hb⟩)
    (fun s A B h hb => by obtain ⟨c, x, y, z⟩ := h; exact ⟨c, hX c s A B x hb, stays_at A B y hb, stays_at A B z hb⟩)
    ?_ ⟨hI _ _ _ h0 b1, q1, q2⟩).mono ?_
  · rintro pre x A ⟨i1, r1, d1⟩ ho
    have hlt : D + 1 < A.heap.size := (Array.getElem?_eq_some_iff.1 r1).1
    have y := run_yield (P := P) (args := encs x) (by rw [r1, hrc]) (hps x)
    refine ⟨fn, _, assign, body, y, roundIn_of_wpIn hfn (hassign _ x A _ ⟨_, run_beginRound (by rw [r1, hrc]) rfl, ?_⟩)⟩
    obtain ⟨A2, hA2⟩ : ∃ A2, A2 = A.putObj (D + 1) (rc .busy none) := ⟨_, rfl⟩
    have e2 : A.putObj (D + 1) (.loop { state := .busy, pending := none, fn, tmps := a.tmps, params := ps, assign, body, defers := w.heap.size }) = A2 := by rw [hA2, hrc]
    have r2 : A2.heap[D + 1]? = some (rc .busy none) := by rw [hA2]; exact World.putObj_heap_same hlt
    have d2 : A2.heap[D]? = some (.deferred (some [])) := by rw [hA2]; exact (World.putObj_heap_other (by omega)).trans d1
    have k2 : keep A A2 := by rw [hA2]; exact hkb _ _ _ _ (by omega) r1 (hne _ _)
    have i2 : I pre A2 := by rw [hA2]; exact hI' _ _ _ _ _ i1 (by omega) r1 (hne _ _)
    have o2 : ok pre x A2 := by rw [hA2]; exact hO _ _ _ _ _ _ ho (by omega) r1 (hne _ _)
    have s2 : w.heap.size ≤ A2.heap.size := by have := (Array.getElem?_eq_some_iff.1 r2).1; omega
    have fin : ∀ (jump : Option Code) (B : World), KeepsOthers A2 B → ∃ C, C = B.putObj (D + 1) (rc (if jump.isNone then .ready else .done) jump) ∧
        (Instr.endRound (D + 1) jump).run P B = .ok (.bool jump.isNone) C ∧ B.heap[D + 1]? = some (rc .busy none) ∧ C.heap[D + 1]? = some (rc (if jump.isNone then .ready else .done) jump) ∧ C.heap[D]? = some (.deferred (some [])) := by
      intro jump B hk
      have r3 := hk.same _ _ r2 (hne _ _)
      have d3 := hk.same _ _ d2 rfl
      refine ⟨_, rfl, ?_, r3, World.putObj_heap_same (Array.getElem?_eq_some_iff.1 r3).1, (World.putObj_heap_other (by omega)).trans d3⟩
      have := run_endRound (P := P) jump (by rw [r3, hrc])
      rw [this, hrc]
    have leave : ∀ (c : Code) (B : World), KeepsOthers A2 B → Ix c (pre ++ [x]) B → ∃ v C, (Instr.endRound (D + 1) (some c)).run P B = .ok v C ∧
        ((Ending.returned v = .returned (.bool true) ∧ (I (pre ++ [x]) C ∧ C.heap[D + 1]? = some (rc .ready none) ∧ C.heap[D]? = some (.deferred (some []))) ∧ keep A C) ∨
         (Ending.returned v = .returned (.bool false) ∧ ∃ c, Ix c (pre ++ [x]) C ∧ C.heap[D + 1]? = some (rc .done (some c)) ∧ C.heap[D]? = some (.deferred (some [])))) := by
      intro c B hk hx
      obtain ⟨C, hC, hr, r3, r4, d4⟩ := fin (some c) B hk
      exact ⟨_, _, hr, .inr ⟨rfl, c, by rw [hC]; exact hX' _ _ _ _ _ _ hx (by omega) r3 (hne _ _), r4, d4⟩⟩
    show body.wpIn (F.inRound (D + 1)) (n - 1 - 1) P _ _ _
    refine wpIn_mono (Q := ownPostK keep I Ix (pre ++ [x]) A2) (by rw [← e2] at i2 o2 s2 ⊢; rw [hrc] at r2; rw [← e2] at r2; exact hbody _ pre x _ s2 (by omega) ⟨_, r2⟩ i2 o2) ?_
    rintro e a3 B hp
    cases e with
    | normal =>
      obtain ⟨hk, kp, i3⟩ := hp
      obtain ⟨C, hC, hr, r3, r4, d4⟩ := fin none B hk
      exact ⟨_, _, hr, .inl ⟨rfl, ⟨by rw [hC]; exact hI' _ _ _ _ _ i3 (by omega) r3 (hne _ _), r4, d4⟩, hkt (hkt k2 kp) (by rw [hC]; exact hkb _ _ _ _ (by omega) r3 (hne _ _))⟩⟩
    | ret => exact leave .ret B hp.1 hp.2
    | exit id => exact leave (.exit id) B hp.1 hp.2
    | goto t => exact leave (.goto t) B hp.1 hp.2
    | panic ch => exact hp.elim
    | outgrown => exact hp.elim
  · rintro e B ⟨⟨v, rfl⟩, (⟨xs, hA, i1, r1, d1⟩ | ⟨pre, hp, c, i1, r1, d1⟩)⟩
    · refine ⟨none, _, run_endLoop (by rw [r1, hrc]) (by simp), ?_⟩
      rw [hD] at r1 d1 ⊢
      exact hdone _ xs _ (Nat.le_refl _) hA (hI' _ _ _ _ _ i1 (by omega) r1 (hne _ _)) ((World.putObj_heap_other (by omega)).trans d1)
    · refine ⟨some c, _, run_endLoop (by rw [r1, hrc]) (by simp), ?_⟩
      rw [hD] at r1 d1 ⊢
      exact hstop _ c pre _ (Nat.le_refl _) hp (hX' _ _ _ _ _ _ i1 (by omega) r1 (hne _ _)) ((World.putObj_heap_other (by omega)).trans d1)


theorem wp_handsN {α : Type} {g : Operand} {ps : Array Tmp} {assign body : Code} {Q : Exit → Act → World → Prop} {a : Act} {w : World}
    {l₀ : Nat} {r₀ : Loop} (hro : F.round = some l₀) (hl₀ : w.heap[l₀]? = some (.loop r₀)) (h1 : 1 ≤ n) {gf : Nat} {lb : Array Value} (hg : a.eval g = .func (.func gf) #[] lb) (hFg : F.fn gf) (eg : ∀ args w, (callFunc gf args).run P w = .ok (.enter gf args) w)
    {encs : α → Array Value} {ok : List α → α → World → Prop} {keep : World → World → Prop} {all part : List α → Prop} (hs : Hands F (n - 1) P gf lb encs ok keep all part w)
    (hkt : ∀ {A B C : World}, keep A B → keep B C → keep A C) (hkb : ∀ (A : World) (l : Nat) (o o' : Obj), w.heap.size ≤ l → A.heap[l]? = some o → o.isCells = false → keep A (A.putObj l o'))
    (hps : ∀ x, (encs x).size = ps.size) (I : List α → World → Prop) (Ix : Code → List α → World → Prop)
    (hI : ∀ s, Stays (I s)) (hI' : ∀ s, Turns w.heap.size (I s)) (hX : ∀ c s, Stays (Ix c s)) (hX' : ∀ c s, Turns w.heap.size (Ix c s)) (hO : ∀ s x, Turns w.heap.size (ok s x)) (h0 : I [] w) (a₁ : α → Act)
    (hassign : ∀ (l : Nat) (x : α) (W : World) (K : Act → World → Prop), K (a₁ x) W →
      assign.wpIn (F.inRound l) (n - 1 - 1) P (Exit.then K (fun _ _ _ => False)) { tmps := (ps.zip (encs x)).foldl (fun t (p, v) => t.setIfInBounds p v) a.tmps, defers := [] } W)
    (hbody : ∀ (l : Nat) (pre : List α) (x : α) (W : World), w.heap.size ≤ W.heap.size → I pre W → ok pre x W → body.wpIn (F.inRound l) (n - 1 - 1) P (ownPostK keep I Ix (pre ++ [x]) W) (a₁ x) W)
    (hdone : ∀ (xs : List α) (W : World), all xs → I xs W → Q .normal a W)
    (hstop : ∀ (c : Code) (pre : List α) (W : World), part pre → Ix c pre W → c.wpIn F n P Q a W) :
    (Code.rangeFunc g ps assign body).wpIn F n P Q a w := by
  refine wpIn_rangeFunc fun fn hfn => ?_
  rw [hro]
  obtain ⟨D, hD⟩ : ∃ D, D = w.heap.size := ⟨_, rfl⟩
  obtain ⟨W1, hW1⟩ : ∃ W1, W1 = w.alloc (.loop { state := .ready, pending := none, fn, tmps := a.tmps, params := ps, assign, body, defers := r₀.defers }) := ⟨_, rfl⟩
  obtain ⟨rc, hrc⟩ : ∃ rc : LoopState → Option Code → Obj, rc = fun st pe => .loop { state := st, pending := pe, fn, tmps := a.tmps, params := ps, assign, body, defers := r₀.defers } := ⟨_, rfl⟩
  have hne : ∀ st pe, (rc st pe).isCells = false := fun st pe => by rw [hrc]; rfl
  have b1 : Below w.heap.size w W1 := by rw [hW1]; exact (Below.refl _ w).alloc (Nat.le_refl _) _
  have q1 : W1.heap[D]? = some (rc .ready none) := by
    rw [hW1, hrc, hD]
    exact World.alloc_heap_new w _
  refine ⟨w.heap.size, [], W1, { target := .fn (.func gf) lb, args := #[.func (.yield w.heap.size) #[] #[]] }, W1, gf,
    #[.func (.yield w.heap.size) #[] #[]] ++ lb, W1, by rw [hW1]; exact run_enterLoop_inner hl₀ _ _ _ _ _, ?_, ?_, ?_, fun _ => h1, ?_⟩
  · simp only [resolve, hg]
    simp [go_sem]
  · intro f' hf'
    simp [Target.leads] at hf'
    subst hf'
    exact hFg
  · simp [invoke, go_sem, eg]
  rw [← hD]
  refine (hs D (fun pre W => I pre W ∧ W.heap[D]? = some (rc .ready none))
    (fun pre W => ∃ c, Ix c pre W ∧ W.heap[D]? = some (rc .done (some c))) W1 b1
    (fun s A B h hb => ⟨hI s A B h.1 hb, stays_at A B h.2 hb⟩)
    (fun s A B h hb => by obtain ⟨c, x, y⟩ := h; exact ⟨c, hX c s A B x hb, stays_at A B y hb⟩)
    ?_ ⟨hI _ _ _ h0 b1, q1⟩).mono ?_
  · rintro pre x A ⟨i1, r1⟩ ho
    have hlt : D < A.heap.size := (Array.getElem?_eq_some_iff.1 r1).1
    have y := run_yield (P := P) (args := encs x) (by rw [r1, hrc]) (hps x)
    refine ⟨fn, _, assign, body, y, roundIn_of_wpIn hfn (hassign _ x A _ ⟨_, run_beginRound (by rw [r1, hrc]) rfl, ?_⟩)⟩
    obtain ⟨A2, hA2⟩ : ∃ A2, A2 = A.putObj D (rc .busy none) := ⟨_, rfl⟩
    have e2 : A.putObj D (.loop { state := .busy, pending := none, fn, tmps := a.tmps, params := ps, assign, body, defers := r₀.defers }) = A2 := by rw [hA2, hrc]
    have r2 : A2.heap[D]? = some (rc .busy none) := by rw [hA2]; exact World.putObj_heap_same hlt
    have k2 : keep A A2 := by rw [hA2]; exact hkb _ _ _ _ (by omega) r1 (hne _ _)
    have i2 : I pre A2 := by rw [hA2]; exact hI' _ _ _ _ _ i1 (by omega) r1 (hne _ _)
    have o2 : ok pre x A2 := by rw [hA2]; exact hO _ _ _ _ _ _ ho (by omega) r1 (hne _ _)
    have s2 : w.heap.size ≤ A2.heap.size := by have := (Array.getElem?_eq_some_iff.1 r2).1; omega
    have fin : ∀ (jump : Option Code) (B : World), KeepsOthers A2 B → ∃ C, C = B.putObj D (rc (if jump.isNone then .ready else .done) jump) ∧
        (Instr.endRound D jump).run P B = .ok (.bool jump.isNone) C ∧ B.heap[D]? = some (rc .busy none) ∧ C.heap[D]? = some (rc (if jump.isNone then .ready else .done) jump) := by
      intro jump B hk
      have r3 := hk.same _ _ r2 (hne _ _)
      refine ⟨_, rfl, ?_, r3, World.putObj_heap_same (Array.getElem?_eq_some_iff.1 r3).1⟩
      have := run_endRound (P := P) jump (by rw [r3, hrc])
      rw [this, hrc]
    have leave : ∀ (c : Code) (B : World), KeepsOthers A2 B → Ix c (pre ++ [x]) B → ∃ v C, (Instr.endRound D (some c)).run P B = .ok v C ∧
        ((Ending.returned v = .returned (.bool true) ∧ (I (pre ++ [x]) C ∧ C.heap[D]? = some (rc .ready none)) ∧ keep A C) ∨
         (Ending.returned v = .returned (.bool false) ∧ ∃ c, Ix c (pre ++ [x]) C ∧ C.heap[D]? = some (rc .done (some c)))) := by
      intro c B hk hx
      obtain ⟨C, hC, hr, r3, r4⟩ := fin (some c) B hk
      exact ⟨_, _, hr, .inr ⟨rfl, c, by rw [hC]; exact hX' _ _ _ _ _ _ hx (by omega) r3 (hne _ _), r4⟩⟩
    show body.wpIn (F.inRound D) (n - 1 - 1) P _ _ _
    refine wpIn_mono (Q := ownPostK keep I Ix (pre ++ [x]) A2) (by rw [← e2] at i2 o2 s2 ⊢; exact hbody _ pre x _ s2 i2 o2) ?_
    rintro e a3 B hp
    cases e with
    | normal =>
      obtain ⟨hk, kp, i3⟩ := hp
      obtain ⟨C, hC, hr, r3, r4⟩ := fin none B hk
      exact ⟨_, _, hr, .inl ⟨rfl, ⟨by rw [hC]; exact hI' _ _ _ _ _ i3 (by omega) r3 (hne _ _), r4⟩, hkt (hkt k2 kp) (by rw [hC]; exact hkb _ _ _ _ (by omega) r3 (hne _ _))⟩⟩
    | ret => exact leave .ret B hp.1 hp.2
    | exit id => exact leave (.exit id) B hp.1 hp.2
    | goto t => exact leave (.goto t) B hp.1 hp.2
    | panic ch => exact hp.elim
    | outgrown => exact hp.elim
  · rintro e B ⟨⟨v, rfl⟩, (⟨xs, hA, i1, r1⟩ | ⟨pre, hp, c, i1, r1⟩)⟩
    · refine ⟨none, _, run_endLoop (by rw [r1, hrc]) (by simp), ?_⟩
      exact hdone xs _ hA (hI' _ _ _ _ _ i1 (by omega) r1 (hne _ _))
    · refine ⟨some c, _, run_endLoop (by rw [r1, hrc]) (by simp), ?_⟩
      exact hstop c pre _ hp (hX' _ _ _ _ _ _ i1 (by omega) r1 (hne _ _))

end Go.Proofs.Ytlhpoliiojekeaa

/- asks, whatever the kind. -/
namespace Go.Proofs.Ytlhpoliiojekeaa
set_option maxRecDepth 100000
open Go.RowKit

set_option maxHeartbeats 16000000 in
theorem wasksG {w : World} {u f T ord m e : Nat} {B : Option Addr} {ps : List Pr} (hO : On w u f T ord B m e ps) (hp : ps.length ≤ 1048576) (o1 : Bool) (k k2 : ByteArray) (z : Int) (i : Int) (bey : Bool) :
    Calls Try.prog 12 #[.pointer (some ⟨u, f, none⟩), .agg #[.int .i64 2, .bool o1, .string k, .string k2, .int .i64 z, .int .i64 i, .bool bey], .int .i64 (ord : Nat)] w fun e w' => e = .returned (.bool true) ∧ Gw w w' := by
  obtain ⟨W, hW⟩ : ∃ W, w.alloc (.cells #[.int .i64 2, .bool o1, .string k, .string k2, .int .i64 z, .int .i64 i, .bool bey] 33) = W := ⟨_, rfl⟩
  have ha := heap_alloc_new w (.cells #[.int .i64 2, .bool o1, .string k, .string k2, .int .i64 z, .int .i64 i, .bool bey] 33)
  rw [hW] at ha
  have hG := Lib.hid (show Gw w W by rw [← hW]; exact (Gw.refl _).alloc _)
  have c0 : W.cell? ⟨w.heap.size, 0, none⟩ = some (.int .i64 2) := by rw [cell_of_row _ _ _ _ _ _ ha]; rfl
  have c2 : W.cell? ⟨w.heap.size, 2, none⟩ = some (.string k) := by rw [cell_of_row _ _ _ _ _ _ ha]; rfl
  have c3 : W.cell? ⟨w.heap.size, 3, none⟩ = some (.string k2) := by rw [cell_of_row _ _ _ _ _ _ ha]; rfl
  have c5 : W.cell? ⟨w.heap.size, 5, none⟩ = some (.int .i64 i) := by rw [cell_of_row _ _ _ _ _ _ ha]; rfl
  have c6 : W.cell? ⟨w.heap.size, 6, none⟩ = some (.bool bey) := by rw [cell_of_row _ _ _ _ _ _ ha]; rfl
  have hOW := hO.gw hG.out
  have u0 := hOW.c0
  have u1 := hOW.c1
  have hml : ps.length = m := hOW.pb.1
  have HN := Lib.hid fun n => hOW.gw ((Gw.refl W).drewN n)
  have CT := Lib.hid fun n => wgetT (HN.out n).tr k
  have CR := Lib.hid fun X (hX : Gw W X) (n : Nat) => wrefGet (c := e) (hOW.gw (hX.drewN n)).pb (by omega) k
  obtain ⟨v, hv⟩ : ∃ v, (getP ps k).1 = v := ⟨_, rfl⟩
  obtain ⟨b, hb⟩ : ∃ b, (getP ps k).2 = b := ⟨_, rfl⟩
  rw [hv, hb] at CT CR
  clear ha hO hp hOW hv hb hml
  go_enter Try.func12, Try.ntmps12
  go_upto_region 3 with fail
  clear hW
  go_quiet ((go_at_call 28; exact Calls.quiet_of (CT.out _)))
  go_upto_region 4 with fail
  obtain ⟨X, hX⟩ : ∃ X, W.drewN nq = X := ⟨_, rfl⟩
  have GX := Lib.hid (show Gw W X by rw [← hX]; exact (Gw.refl W).drewN _)
  rw [hX]
  have CRX := Lib.hid fun n => CR.out X GX.out n
  have y0 := keep_below u0 GX.out
  have y1 := keep_below u1 GX.out
  have y2 := keep_below c2 GX.out
  have y5 := keep_below c5 GX.out
  have y6 := keep_below c6 GX.out
  clear hX u0 u1 c0 c2 c3 c5 c6 CR CT
  go_quiet ((go_at_call 16; exact Calls.quiet_of (CRX.out _)))
  go_wp2
  go_ret
  exact ⟨by simp, hG.out.trans (GX.out.drewN _)⟩

set_option maxHeartbeats 16000000 in
theorem wasksX {w : World} {u f T ord m e : Nat} {B : Option Addr} {ps : List Pr} (hO : On w u f T ord B m e ps) (hp : ps.length ≤ 1048576) (o1 : Bool) (k k2 : ByteArray) (z : Int) (i : Int) (bey : Bool) :
    Calls Try.prog 12 #[.pointer (some ⟨u, f, none⟩), .agg #[.int .i64 3, .bool o1, .string k, .string k2, .int .i64 z, .int .i64 i, .bool bey], .int .i64 (ord : Nat)] w fun e w' => e = .returned (.bool true) ∧ Gw w w' := by
  obtain ⟨W, hW⟩ : ∃ W, w.alloc (.cells #[.int .i64 3, .bool o1, .string k, .string k2, .int .i64 z, .int .i64 i, .bool bey] 33) = W := ⟨_, rfl⟩
  have ha := heap_alloc_new w (.cells #[.int .i64 3, .bool o1, .string k, .string k2, .int .i64 z, .int .i64 i, .bool bey] 33)
  rw [hW] at ha
  have hG := Lib.hid (show Gw w W by rw [← hW]; exact (Gw.refl _).alloc _)
  have c0 : W.cell? ⟨w.heap.size, 0, none⟩ = some (.int .i64 3) := by rw [cell_of_row _ _ _ _ _ _ ha]; rfl
  have c2 : W.cell? ⟨w.heap.size, 2, none⟩ = some (.string k) := by rw [cell_of_row _ _ _ _ _ _ ha]; rfl
  have c3 : W.cell? ⟨w.heap.size, 3, none⟩ = some (.string k2) := by rw [cell_of_row _ _ _ _ _ _ ha]; rfl
  have c5 : W.cell? ⟨w.heap.size, 5, none⟩ = some (.int .i64 i) := by rw [cell_of_row _ _ _ _ _ _ ha]; rfl
  have c6 : W.cell? ⟨w.heap.size, 6, none⟩ = some (.bool bey) := by rw [cell_of_row _ _ _ _ _ _ ha]; rfl
  have hOW := hO.gw hG.out
  have u0 := hOW.c0
  have u1 := hOW.c1
  have hml : ps.length = m := hOW.pb.1
  have HN := Lib.hid fun n => hOW.gw ((Gw.refl W).drewN n)
  have CT := Lib.hid fun n => wnextT (HN.out n).tr (by omega) k bey
  have CR := Lib.hid fun X (hX : Gw W X) (n : Nat) => wrefNext (c := e) (hOW.gw (hX.drewN n)).pb (by omega) k bey
  obtain ⟨r, hr⟩ : ∃ r, (rk (keys ps) k + if bey && has (keys ps) k then 1 else 0 : Nat) = r := ⟨_, rfl⟩
  rw [hr] at CT CR
  obtain ⟨v, hv⟩ : ∃ v, atV ps (r : Int) = v := ⟨_, rfl⟩
  obtain ⟨x, y, t, rfl⟩ : ∃ a b c, v = .tuple #[.string a, .int .i64 b, .bool c] := by
    rw [← hv]
    cases hh : ps[r]? with
    | none => exact ⟨_, _, _, atV_none hh⟩
    | some p => exact ⟨_, _, _, atV_some (k := p.1) (z := p.2) hh⟩
  rw [hv] at CT CR
  clear ha hO hp hOW hv hr hml
  go_enter Try.func12, Try.ntmps12
  go_upto_region 7 with fail
  clear hW
  go_quiet ((go_at_call 29; exact Calls.quiet_of (CT.out _)))
  go_upto_region 8 with fail
  obtain ⟨X, hX⟩ : ∃ X, W.drewN nq = X := ⟨_, rfl⟩
  have GX := Lib.hid (show Gw W X by rw [← hX]; exact (Gw.refl W).drewN _)
  rw [hX]
  have CRX := Lib.hid fun n => CR.out X GX.out n
  have y0 := keep_below u0 GX.out
  have y1 := keep_below u1 GX.out
  have y2 := keep_below c2 GX.out
  have y5 := keep_below c5 GX.out
  have y6 := keep_below c6 GX.out
  clear hX u0 u1 c0 c2 c3 c5 c6 CR CT
  go_quiet ((go_at_call 30; exact Calls.quiet_of (CRX.out _)))
  go_wp2
  go_ret
  exact ⟨by simp, hG.out.trans (GX.out.drewN _)⟩

set_option maxHeartbeats 16000000 in
theorem wasksS {w : World} {u f T ord m e : Nat} {B : Option Addr} {ps : List Pr} (hO : On w u f T ord B m e ps) (hp : ps.length ≤ 1048576) (o1 : Bool) (k k2 : ByteArray) (z : Int) (i : Int) (bey : Bool) (hi : -9223372036854775808 ≤ i ∧ i ≤ 9223372036854775807) :
    Calls Try.prog 12 #[.pointer (some ⟨u, f, none⟩), .agg #[.int .i64 4, .bool o1, .string k, .string k2, .int .i64 z, .int .i64 i, .bool bey], .int .i64 (ord : Nat)] w fun e w' => e = .returned (.bool true) ∧ Gw w w' := by
  obtain ⟨W, hW⟩ : ∃ W, w.alloc (.cells #[.int .i64 4, .bool o1, .string k, .string k2, .int .i64 z, .int .i64 i, .bool bey] 33) = W := ⟨_, rfl⟩
  have ha := heap_alloc_new w (.cells #[.int .i64 4, .bool o1, .string k, .string k2, .int .i64 z, .int .i64 i, .bool bey] 33)
  rw [hW] at ha
  have hG := Lib.hid (show Gw w W by rw [← hW]; exact (Gw.refl _).alloc _)
  have c0 : W.cell? ⟨w.heap.size, 0, none⟩ = some (.int .i64 4) := by rw [cell_of_row _ _ _ _ _ _ ha]; rfl
  have c2 : W.cell? ⟨w.heap.size, 2, none⟩ = some (.string k) := by rw [cell_of_row _ _ _ _ _ _ ha]; rfl
  have c3 : W.cell? ⟨w.heap.size, 3, none⟩ = some (.string k2) := by rw [cell_of_row _ _ _ _ _ _ ha]; rfl
  have c5 : W.cell? ⟨w.heap.size, 5, none⟩ = some (.int .i64 i) := by rw [cell_of_row _ _ _ _ _ _ ha]; rfl
  have c6 : W.cell? ⟨w.heap.size, 6, none⟩ = some (.bool bey) := by rw [cell_of_row _ _ _ _ _ _ ha]; rfl
  have hOW := hO.gw hG.out
  have u0 := hOW.c0
  have u1 := hOW.c1
  have hml : ps.length = m := hOW.pb.1
  have HN := Lib.hid fun n => hOW.gw ((Gw.refl W).drewN n)
  have CG := Lib.hid fun X (hX : Gw W X) => wgoes (d := e) (hOW.gw hX).tr (hOW.gw hX).pb hp k k2 i hi
  have KS := Lib.hid (show ∀ X, Gw W X → X.cell? ⟨u, f, none⟩ = some (.pointer (some ⟨T, 0, none⟩)) ∧ X.cell? ⟨u, f + 1, none⟩ = some (.slice B m e) ∧ X.cell? ⟨w.heap.size, 2, none⟩ = some (.string k) ∧ X.cell? ⟨w.heap.size, 3, none⟩ = some (.string k2) ∧ X.cell? ⟨w.heap.size, 5, none⟩ = some (.int .i64 i) from fun X hX => ⟨keep_below u0 hX, keep_below u1 hX, keep_below c2 hX, keep_below c3 hX, keep_below c5 hX⟩)
  clear ha hO hp hOW hml hi u0 u1 c2 c3 c5 c6
  go_enter Try.func12, Try.ntmps12
  go_upto_region 11 with fail
  clear hW
  have hS0 := KS.out _ (Gw.refl W)
  go_region_held3 (fun w' => w'.cell? ⟨u, f, none⟩ = some (.pointer (some ⟨T, 0, none⟩)) ∧ w'.cell? ⟨u, f + 1, none⟩ = some (.slice B m e) ∧ w'.cell? ⟨w.heap.size, 2, none⟩ = some (.string k) ∧ w'.cell? ⟨w.heap.size, 3, none⟩ = some (.string k2) ∧ w'.cell? ⟨w.heap.size, 5, none⟩ = some (.int .i64 i)) (first | exact hS0 | exact KS.out _ B3.out)
    ((go_at_call 31; go_loud (refine (CG.out _ ((Gw.refl W).drew)).mono ?_; rintro e w3 ⟨rfl, g3⟩; have B3 := Lib.hid (show Gw W w3 from ((Gw.refl W).drew).trans g3); clear g3 CG)))
  go_wp2
  go_ret
  exact ⟨rfl, hG.out.trans B3.out⟩

set_option maxHeartbeats 16000000 in
theorem wasksR {w : World} {u f T ord m e : Nat} {B : Option Addr} {ps : List Pr} (hO : On w u f T ord B m e ps) (hp : ps.length ≤ 1048576) (o1 : Bool) (k k2 : ByteArray) (z : Int) (i : Int) (bey : Bool) :
    Calls Try.prog 12 #[.pointer (some ⟨u, f, none⟩), .agg #[.int .i64 5, .bool o1, .string k, .string k2, .int .i64 z, .int .i64 i, .bool bey], .int .i64 (ord : Nat)] w fun e w' => e = .returned (.bool true) ∧ Gw w w' := by
  obtain ⟨W, hW⟩ : ∃ W, w.alloc (.cells #[.int .i64 5, .bool o1, .string k, .string k2, .int .i64 z, .int .i64 i, .bool bey] 33) = W := ⟨_, rfl⟩
  have ha := heap_alloc_new w (.cells #[.int .i64 5, .bool o1, .string k, .string k2, .int .i64 z, .int .i64 i, .bool bey] 33)
  rw [hW] at ha
  have hG := Lib.hid (show Gw w W by rw [← hW]; exact (Gw.refl _).alloc _)
  have c0 : W.cell? ⟨w.heap.size, 0, none⟩ = some (.int .i64 5) := by rw [cell_of_row _ _ _ _ _ _ ha]; rfl
  have c2 : W.cell? ⟨w.heap.size, 2, none⟩ = some (.string k) := by rw [cell_of_row _ _ _ _ _ _ ha]; rfl
  have c3 : W.cell? ⟨w.heap.size, 3, none⟩ = some (.string k2) := by rw [cell_of_row _ _ _ _ _ _ ha]; rfl
  have c5 : W.cell? ⟨w.heap.size, 5, none⟩ = some (.int .i64 i) := by rw [cell_of_row _ _ _ _ _ _ ha]; rfl
  have c6 : W.cell? ⟨w.heap.size, 6, none⟩ = some (.bool bey) := by rw [cell_of_row _ _ _ _ _ _ ha]; rfl
  have hOW := hO.gw hG.out
  have u0 := hOW.c0
  have u1 := hOW.c1
  have hml : ps.length = m := hOW.pb.1
  have HN := Lib.hid fun n => hOW.gw ((Gw.refl W).drewN n)
  have CT := Lib.hid fun n => wrankT (HN.out n).tr (by omega) k
  have CR := Lib.hid fun n => wrefRank (c := e) (HN.out n).pb (by omega) k
  obtain ⟨r, hr⟩ : ∃ r, rk (keys ps) k = r := ⟨_, rfl⟩
  rw [hr] at CT CR
  clear ha hO hp hOW hr hml
  go_enter Try.func12, Try.ntmps12
  go_upto_region 13 with fail
  clear hW
  go_quiet ((first | (go_at_call 32; (try simp only [World.drewN_drewN]); exact Calls.quiet_of (CT.out _)) | (go_at_call 33; (try simp only [World.drewN_drewN]); exact Calls.quiet_of_same (CR.out _))))
  go_wp2
  go_ret
  exact ⟨by simp, hG.out.trans ((Gw.refl W).drewN _)⟩

set_option maxHeartbeats 16000000 in
theorem wasksA {w : World} {u f T ord m e : Nat} {B : Option Addr} {ps : List Pr} (hO : On w u f T ord B m e ps) (hp : ps.length ≤ 1048576) (o1 : Bool) (k k2 : ByteArray) (z : Int) (i : Int) (bey : Bool) :
    Calls Try.prog 12 #[.pointer (some ⟨u, f, none⟩), .agg #[.int .i64 6, .bool o1, .string k, .string k2, .int .i64 z, .int .i64 i, .bool bey], .int .i64 (ord : Nat)] w fun e w' => e = .returned (.bool true) ∧ Gw w w' := by
  obtain ⟨W, hW⟩ : ∃ W, w.alloc (.cells #[.int .i64 6, .bool o1, .string k, .string k2, .int .i64 z, .int .i64 i, .bool bey] 33) = W := ⟨_, rfl⟩
  have ha := heap_alloc_new w (.cells #[.int .i64 6, .bool o1, .string k, .string k2, .int .i64 z, .int .i64 i, .bool bey] 33)
  rw [hW] at ha
  have hG := Lib.hid (show Gw w W by rw [← hW]; exact (Gw.refl _).alloc _)
  have c0 : W.cell? ⟨w.heap.size, 0, none⟩ = some (.int .i64 6) := by rw [cell_of_row _ _ _ _ _ _ ha]; rfl
  have c2 : W.cell? ⟨w.heap.size, 2, none⟩ = some (.string k) := by rw [cell_of_row _ _ _ _ _ _ ha]; rfl
  have c3 : W.cell? ⟨w.heap.size, 3, none⟩ = some (.string k2) := by rw [cell_of_row _ _ _ _ _ _ ha]; rfl
  have c5 : W.cell? ⟨w.heap.size, 5, none⟩ = some (.int .i64 i) := by rw [cell_of_row _ _ _ _ _ _ ha]; rfl
  have c6 : W.cell? ⟨w.heap.size, 6, none⟩ = some (.bool bey) := by rw [cell_of_row _ _ _ _ _ _ ha]; rfl
  have hOW := hO.gw hG.out
  have u0 := hOW.c0
  have u1 := hOW.c1
  have hml : ps.length = m := hOW.pb.1
  have HN := Lib.hid fun n => hOW.gw ((Gw.refl W).drewN n)
  have CT := Lib.hid fun n => watT (HN.out n).tr (by omega) i
  have CR := Lib.hid fun X (hX : Gw W X) (n : Nat) => wrefAt (c := e) (hOW.gw (hX.drewN n)).pb (by omega) i
  obtain ⟨v, hv⟩ : ∃ v, atV ps i = v := ⟨_, rfl⟩
  obtain ⟨x, y, t, rfl⟩ : ∃ a b c, v = .tuple #[.string a, .int .i64 b, .bool c] := by
    rw [← hv]
    unfold atV
    repeat' split
    all_goals exact ⟨_, _, _, rfl⟩
  rw [hv] at CT CR
  clear ha hO hp hOW hv hml
  go_enter Try.func12, Try.ntmps12
  go_upto_region 15 with fail
  clear hW
  go_quiet ((go_at_call 20; exact Calls.quiet_of (CT.out _)))
  go_upto_region 16 with fail
  obtain ⟨X, hX⟩ : ∃ X, W.drewN nq = X := ⟨_, rfl⟩
  have GX := Lib.hid (show Gw W X by rw [← hX]; exact (Gw.refl W).drewN _)
  rw [hX]
  have CRX := Lib.hid fun n => CR.out X GX.out n
  have y0 := keep_below u0 GX.out
  have y1 := keep_below u1 GX.out
  have y2 := keep_below c2 GX.out
  have y5 := keep_below c5 GX.out
  have y6 := keep_below c6 GX.out
  clear hX u0 u1 c0 c2 c3 c5 c6 CR CT
  go_quiet ((go_at_call 34; exact Calls.quiet_of (CRX.out _)))
  go_wp2
  go_ret
  exact ⟨by simp, hG.out.trans (GX.out.drewN _)⟩

set_option maxHeartbeats 16000000 in
theorem wasksL {w : World} {u f T ord m e : Nat} {B : Option Addr} {ps : List Pr} (hO : On w u f T ord B m e ps) (hp : ps.length ≤ 1048576) (kd : Int) (o1 : Bool) (k k2 : ByteArray) (z : Int) (i : Int) (bey : Bool) (h2 : kd ≠ 2) (h3 : kd ≠ 3) (h4 : kd ≠ 4) (h5 : kd ≠ 5) (h6 : kd ≠ 6) (h8 : kd ≠ 8) :
    Calls Try.prog 12 #[.pointer (some ⟨u, f, none⟩), .agg #[.int .i64 kd, .bool o1, .string k, .string k2, .int .i64 z, .int .i64 i, .bool bey], .int .i64 (ord : Nat)] w fun e w' => e = .returned (.bool true) ∧ Gw w w' := by
  obtain ⟨W, hW⟩ : ∃ W, w.alloc (.cells #[.int .i64 kd, .bool o1, .string k, .string k2, .int .i64 z, .int .i64 i, .bool bey] 33) = W := ⟨_, rfl⟩
  have ha := heap_alloc_new w (.cells #[.int .i64 kd, .bool o1, .string k, .string k2, .int .i64 z, .int .i64 i, .bool bey] 33)
  rw [hW] at ha
  have hG := Lib.hid (show Gw w W by rw [← hW]; exact (Gw.refl _).alloc _)
  have c0 : W.cell? ⟨w.heap.size, 0, none⟩ = some (.int .i64 kd) := by rw [cell_of_row _ _ _ _ _ _ ha]; rfl
  have c2 : W.cell? ⟨w.heap.size, 2, none⟩ = some (.string k) := by rw [cell_of_row _ _ _ _ _ _ ha]; rfl
  have c3 : W.cell? ⟨w.heap.size, 3, none⟩ = some (.string k2) := by rw [cell_of_row _ _ _ _ _ _ ha]; rfl
  have c5 : W.cell? ⟨w.heap.size, 5, none⟩ = some (.int .i64 i) := by rw [cell_of_row _ _ _ _ _ _ ha]; rfl
  have c6 : W.cell? ⟨w.heap.size, 6, none⟩ = some (.bool bey) := by rw [cell_of_row _ _ _ _ _ _ ha]; rfl
  have hOW := hO.gw hG.out
  have u0 := hOW.c0
  have u1 := hOW.c1
  have hml : ps.length = m := hOW.pb.1
  have HN := Lib.hid fun n => hOW.gw ((Gw.refl W).drewN n)
  have CT := Lib.hid fun n => wlen (HN.out n).tr
  rw [hml] at CT
  clear ha hO hp hOW hml
  go_enter Try.func12, Try.ntmps12
  go_upto_region 21 with fail
  clear hW
  go_quiet ((go_at_call 21; exact Calls.quiet_of_same (CT.out _)))
  go_wp2
  go_ret
  exact ⟨by simp, hG.out.trans ((Gw.refl W).drewN _)⟩

/-- asks, whatever the kind. -/
theorem wasks {w : World} {u f T ord m e : Nat} {B : Option Addr} {ps : List Pr} (hO : On w u f T ord B m e ps) (hp : ps.length ≤ 1048576) (o : OpT) (ho : OpTIs o) :
    Calls Try.prog 12 #[.pointer (some ⟨u, f, none⟩), o.val, .int .i64 (ord : Nat)] w fun e w' => e = .returned (.bool true) ∧ Gw w w' := by
  obtain ⟨kd, o1, k, k2, z, i, bey⟩ := o
  unfold OpT.val
  dsimp only
  by_cases h2 : kd = 2
  · subst h2; exact wasksG hO hp o1 k k2 z i bey
  by_cases h3 : kd = 3
  · subst h3; exact wasksX hO hp o1 k k2 z i bey
  by_cases h4 : kd = 4
  · subst h4; exact wasksS hO hp o1 k k2 z i bey ho.ri
  by_cases h5 : kd = 5
  · subst h5; exact wasksR hO hp o1 k k2 z i bey
  by_cases h6 : kd = 6
  · subst h6; exact wasksA hO hp o1 k k2 z i bey
  by_cases h8 : kd = 8
  · subst h8; exact wasksF hO hp o1 k k2 z i bey
  exact wasksL hO hp kd o1 k k2 z i bey h2 h3 h4 h5 h6 h8
end Go.Proofs.Ytlhpoliiojekeaa

/- Two trees beside each other: what a change of the one leaves of the other. -/
namespace Go.Proofs.Ytlhpoliiojekeaa
set_option maxRecDepth 100000
open Go.RowKit

theorem TreeAt.kn {w w' : World} {T ord : Nat} {ps : List Pr} (h : TreeAt w T ord ps) (k : KeepN w w') (hT : w'.heap[T]? = w.heap[T]?) : TreeAt w' T ord ps := by
  obtain ⟨v, d, m, h1, h2, h3⟩ := h
  exact ⟨v, d, m, ⟨hT.trans h1.row⟩, h2.kn k, h3⟩
/-- Both trees: the one that is at hand lies at fa, the other one at fb. -/
structure Two (w wr : World) (u fa fb Ta Tb ord : Nat) (Ba Bb : Option Addr) (ma mb da db : Nat) (P Q : List Pr) (j : Nat) : Prop where
  a : On wr u fa Ta ord Ba ma da P
  b : On wr u fb Tb ord Bb mb db Q
  ne : Ta ≠ Tb
  la : w.heap.size ≤ Ta
  lb : w.heap.size ≤ Tb
  lu : w.heap.size ≤ u
  pa : P.length ≤ j
  pb : Q.length ≤ j
  gw : Gw w wr
  za : wr.frozen? ⟨u, fa, none⟩ = false
  zb : wr.frozen? ⟨u, fb, none⟩ = false
section
variable {w wr w' : World} {u fa fb Ta Tb ord : Nat} {Ba Bb : Option Addr} {ma mb da db : Nat} {P Q : List Pr} {j : Nat}
theorem Two.gwE (h : Two w wr u fa fb Ta Tb ord Ba Bb ma mb da db P Q j) (g : Gw wr w') : Two w w' u fa fb Ta Tb ord Ba Bb ma mb da db P Q j := ⟨h.a.gw g, h.b.gw g, h.ne, h.la, h.lb, h.lu, h.pa, h.pb, h.gw.trans g, (fz_below g h.a.c0).trans h.za, (fz_below g h.b.c0).trans h.zb⟩
theorem Two.swap (h : Two w wr u fa fb Ta Tb ord Ba Bb ma mb da db P Q j) : Two w wr u fb fa Tb Ta ord Bb Ba mb ma db da Q P j := ⟨h.b, h.a, h.ne.symm, h.lb, h.la, h.lu, h.pb, h.pa, h.gw, h.zb, h.za⟩
theorem Two.more (h : Two w wr u fa fb Ta Tb ord Ba Bb ma mb da db P Q j) {j' : Nat} (hj : j ≤ j') : Two w wr u fa fb Ta Tb ord Ba Bb ma mb da db P Q j' := ⟨h.a, h.b, h.ne, h.la, h.lb, h.lu, Nat.le_trans h.pa hj, Nat.le_trans h.pb hj, h.gw, h.za, h.zb⟩
/-- Behind a change of the one. -/
theorem Two.change (h : Two w wr u fa fb Ta Tb ord Ba Bb ma mb da db P Q j) (hf : fb ≠ fa + 1 ∧ fb + 1 ≠ fa + 1) {R : List Pr} (hR : R.length ≤ j + 1) (hc : ChIs u fa Ta ord R wr w') : ∃ B m d, Two w w' u fa fb Ta Tb ord B Bb m mb d db R Q (j + 1) := by
  obtain ⟨B, m, d, o, x, cb⟩ := hc
  have kn := x.keepN h.a.tr.fo h.a.fo
  have hTb := x.block Tb h.b.tr.lt h.ne.symm h.b.ne.symm
  exact ⟨B, m, d, o, ⟨(cb.1 fb hf.1).trans h.b.c0, (cb.1 (fb + 1) hf.2).trans h.b.c1, (cb.2 _).trans h.b.fz, o.fo, h.b.tr.kn kn hTb, ⟨h.b.pb.1, kn.vb h.b.pb.2⟩, h.b.md, h.b.ne⟩, h.ne, h.la, h.lb, h.lu, hR, by have := h.pb; omega, X2.below h.gw x h.la h.lu, (cb.2 _).trans h.za, (cb.2 _).trans h.zb⟩
/-- Behind a clone: the other one is as the one. -/
theorem Two.clone (h : Two w wr u fa fb Ta Tb ord Ba Bb ma mb da db P Q j) (hf : fb ≠ fa ∧ fb ≠ fa + 1 ∧ fb + 1 ≠ fa) {X : World} {T' : Nat} (g : Gw wr X) (t : TreeAt X T' ord P) (hl : wr.heap.size ≤ T') :
    let Y := (X.setCell ⟨u, fb, none⟩ (.pointer (some ⟨T', 0, none⟩))).setCell ⟨u, fb + 1, none⟩ (.slice Ba ma da)
    Two w Y u fa fb Ta T' ord Ba Ba ma ma da da P P j ∧ (Y.cell? ⟨u, fa, none⟩ = some (.pointer (some ⟨Ta, 0, none⟩)) ∧ Y.cell? ⟨u, fa + 1, none⟩ = some (.slice Ba ma da)) ∧
      ((X.setCell ⟨u, fb, none⟩ (.pointer (some ⟨T', 0, none⟩))).cell? ⟨u, fa, none⟩ = some (.pointer (some ⟨Ta, 0, none⟩)) ∧ (X.setCell ⟨u, fb, none⟩ (.pointer (some ⟨T', 0, none⟩))).cell? ⟨u, fa + 1, none⟩ = some (.slice Ba ma da)) ∧
      ((X.setCell ⟨u, fb, none⟩ (.pointer (some ⟨T', 0, none⟩))).cell? ⟨u, fb + 1, none⟩ = some (.slice Bb mb db) ∧ (X.setCell ⟨u, fb, none⟩ (.pointer (some ⟨T', 0, none⟩))).frozen? ⟨u, fb + 1, none⟩ = false) := by
  have o := h.a.gw g
  have ob := h.b.gw g
  have hTal := h.a.tr.lt
  have hul := h.a.fo.lt
  have hsz := Below.size g
  have hTl := t.lt
  have x1 : Xt u X (X.setCell ⟨u, fb, none⟩ (.pointer (some ⟨T', 0, none⟩))) := Xt.set (Gw.refl _) fb _
  have x2 : Xt u (X.setCell ⟨u, fb, none⟩ (.pointer (some ⟨T', 0, none⟩))) ((X.setCell ⟨u, fb, none⟩ (.pointer (some ⟨T', 0, none⟩))).setCell ⟨u, fb + 1, none⟩ (.slice Ba ma da)) := Xt.set (Gw.refl _) (fb + 1) _
  have x := x1.trans x2
  have b1 : Cb u fb X _ := Cb.set X (.pointer (some ⟨T', 0, none⟩))
  have b2 : Cb u (fb + 1) _ _ := Cb.set (X.setCell ⟨u, fb, none⟩ (.pointer (some ⟨T', 0, none⟩))) (.slice Ba ma da)
  have fo' := (o.fo.set fb (.pointer (some ⟨T', 0, none⟩))).set (fb + 1) (.slice Ba ma da)
  have a1 : (X.setCell ⟨u, fb, none⟩ (.pointer (some ⟨T', 0, none⟩))).cell? ⟨u, fa, none⟩ = some (.pointer (some ⟨Ta, 0, none⟩)) := by rw [b1.1 fa (by omega)]; exact o.c0
  have a2 : (X.setCell ⟨u, fb, none⟩ (.pointer (some ⟨T', 0, none⟩))).cell? ⟨u, fa + 1, none⟩ = some (.slice Ba ma da) := by rw [b1.1 (fa + 1) (by omega)]; exact o.c1
  have a3 : (X.setCell ⟨u, fb, none⟩ (.pointer (some ⟨T', 0, none⟩))).cell? ⟨u, fb + 1, none⟩ = some (.slice Bb mb db) := by rw [b1.1 (fb + 1) (by omega)]; exact ob.c1
  have a4 : (X.setCell ⟨u, fb, none⟩ (.pointer (some ⟨T', 0, none⟩))).frozen? ⟨u, fb + 1, none⟩ = false := by rw [b1.2]; exact ob.fz
  have a5 : (X.setCell ⟨u, fb, none⟩ (.pointer (some ⟨T', 0, none⟩))).cell? ⟨u, fb, none⟩ = some (.pointer (some ⟨T', 0, none⟩)) := World.cell?_setCell_same _ _ _ ob.c0
  have z1 := (b2.1 fa (by omega)).trans a1
  have z2 := (b2.1 (fa + 1) (by omega)).trans a2
  refine ⟨⟨⟨z1, z2, by rw [b2.2, b1.2]; exact o.fz, fo', o.tr.xt x o.fo h.a.ne.symm, x.pb o.fo o.pb, h.a.md, h.a.ne⟩, ⟨(b2.1 fb (by omega)).trans a5, World.cell?_setCell_same _ _ _ a3, by rw [b2.2]; exact a4, fo', t.xt x o.fo (by omega), x.pb o.fo o.pb, h.a.md, by omega⟩, by omega, h.la, by have := Below.size h.gw; omega, h.lu, h.pa, h.pa, Xt.below (h.gw.trans g) x h.lu, by rw [b2.2, b1.2]; exact (fz_below g h.a.c0).trans h.za, by rw [b2.2, b1.2]; exact (fz_below g h.b.c0).trans h.zb⟩, ⟨z1, z2⟩, ⟨a1, a2⟩, ⟨a3, a4⟩⟩
end
end Go.Proofs.Ytlhpoliiojekeaa

/- TreeScans: what stands while a scan is gone over and the tree is changed beneath it. -/
namespace Go.Proofs.Ytlhpoliiojekeaa
set_option maxRecDepth 100000
open Go.RowKit Go.Shelf

/-! ### the pairs -/
/-- P while the rounds over S go on, k of them over: no more than L, no key longer than Z, what is to come is there. -/
structure Pu (S : List Pr) (L Z : Nat) (k : Nat) (P : List Pr) : Prop where
  rise : Rises (keys P)
  len : P.length ≤ L
  big : ∀ p ∈ P, p.1.size ≤ Z + 1
  is : ∀ (i : Nat) (x : Pr), k ≤ i → S[i]? = some x → ∃ z, (x.1, z) ∈ P
theorem scanP_rises {P : List Pr} (h : Rises (keys P)) (lo hi : ByteArray) : Rises (keys (scanP P lo hi)) := List.Pairwise.sublist (List.Sublist.map _ List.filter_sublist) h
theorem Pu.start {P : List Pr} {L Z : Nat} (h : Rises (keys P)) (hl : P.length ≤ L) (hb : ∀ p ∈ P, p.1.size ≤ Z) (lo hi : ByteArray) : Pu (scanP P lo hi) L Z 0 P :=
  ⟨h, hl, fun p hp => Nat.le_succ_of_le (hb p hp), fun i x _ hx => ⟨x.2, (List.mem_filter.1 (List.mem_of_getElem? hx)).1⟩⟩
theorem Pu.step {S P : List Pr} {L Z k : Nat} (h : Pu S L Z k P) (hS : Rises (keys S)) {kk : ByteArray} {z : Int} (hk : S[k]? = some (kk, z)) (nk : ByteArray) (hn : nk.size ≤ Z + 1) (hne : nk ≠ kk) (v : Int) :
    (putP P nk v).length ≤ L + 1 ∧ Pu S L Z (k + 1) (delP (putP P nk v) kk) := by
  obtain ⟨z0, hz0⟩ := h.is k (kk, z) (Nat.le_refl _) hk
  have r1 := putP_rises h.rise nk v
  have hh : has (keys (putP P nk v)) kk = true := (has_iff r1 kk).2 ⟨z0, (mem_putP h.rise nk v _).2 (.inr ⟨hz0, fun e => hne e.symm⟩)⟩
  have l1 := putP_len P nk v
  have l2 := delP_len (putP P nk v) kk
  rw [if_pos hh] at l2
  have hL := h.len
  have hl1 : (putP P nk v).length ≤ L + 1 := by split at l1 <;> omega
  refine ⟨hl1, delP_rises r1 kk, by omega, fun p hp => ?_, fun i x hi hx => ?_⟩
  · rcases (mem_putP h.rise nk v p).1 ((mem_delP r1 kk p).1 hp).1 with e | e
    · rw [e]; exact hn
    · exact h.big p e.1
  · have hlt : kl kk x.1 = true := hS.at_ (i := k) (j := i) (by omega) (by simp [keys, hk]) (by simp [keys, hx])
    have hx1 : x.1 ≠ kk := fun e => by rw [e, kl_irrefl] at hlt; cases hlt
    obtain ⟨z1, hz1⟩ := h.is i x (by omega) hx
    by_cases e : x.1 = nk
    · exact ⟨v, (mem_delP r1 kk _).2 ⟨(mem_putP h.rise nk v _).2 (.inl (by rw [e])), hx1⟩⟩
    · exact ⟨z1, (mem_delP r1 kk _).2 ⟨(mem_putP h.rise nk v _).2 (.inr ⟨hz1, e⟩), hx1⟩⟩
theorem longer_ne (a b : ByteArray) (h : b.size ≠ 0) : a ++ b ≠ a := fun e => by
  have := congrArg ByteArray.size e
  simp at this
  exact h (by simpa using this)

/-! ### the memory -/
theorem Fo.turn {X : World} {u l : Nat} {o : Obj} (h : Fo X u) (o' : Obj) (hl : X.heap[l]? = some o) (hc : o.isCells = false) : (X.putObj l o').heap[u]? = X.heap[u]? := by
  obtain ⟨cs, e, fr, h1, -⟩ := h
  exact World.putObj_heap_other (fun e' => by subst e'; rw [h1] at hl; cases hl; cases hc)
theorem TreeAt.turn {X : World} {T ord l : Nat} {P : List Pr} {o : Obj} (h : TreeAt X T ord P) (o' : Obj) (hl : X.heap[l]? = some o) (hc : o.isCells = false) : TreeAt (X.putObj l o') T ord P :=
  h.kn (KeepN.turn X l o o' hl hc) (h.fo.turn o' hl hc)
theorem PB.turn {X : World} {A : Option Addr} {n l : Nat} {P : List Pr} {o : Obj} (h : PB X A n P) (o' : Obj) (hl : X.heap[l]? = some o) (hc : o.isCells = false) : PB (X.putObj l o') A n P := ⟨h.1, (KeepN.turn X l o o' hl hc).vb h.2⟩
theorem On.turn {X : World} {u f T ord m d l : Nat} {B : Option Addr} {P : List Pr} {o : Obj} (h : On X u f T ord B m d P) (o' : Obj) (hl : X.heap[l]? = some o) (hc : o.isCells = false) : On (X.putObj l o') u f T ord B m d P := by
  have hb := h.fo.turn o' hl hc
  refine ⟨(World.cell?_of_block hb).trans h.c0, (World.cell?_of_block hb).trans h.c1, (World.frozen?_of_block hb).trans h.fz, ?_, h.tr.turn o' hl hc, h.pb.turn o' hl hc, h.md, h.ne⟩
  obtain ⟨cs, e, fr, q, r⟩ := h.fo
  exact ⟨cs, e, fr, hb.trans q, r⟩
theorem On.xt {X Y : World} {u f T ord m d U : Nat} {B : Option Addr} {P : List Pr} (h : On X u f T ord B m d P) (x : Xt U X Y) (fo : Fo X U) (h1 : u ≠ U) (h2 : T ≠ U) : On Y u f T ord B m d P := by
  have hb := x.block u h.fo.lt h1
  exact ⟨(World.cell?_of_block hb).trans h.c0, (World.cell?_of_block hb).trans h.c1, (World.frozen?_of_block hb).trans h.fz, h.fo.xt x h1, h.tr.xt x fo h2, x.pb fo h.pb, h.md, h.ne⟩
theorem others_x2 {T u : Nat} {A B : World} (h : X2 T u A B) (hT : Fo A T) (hu : Fo A u) : KeepsOthers A B := ⟨h.size, fun k o hk hc => by
  have key : ∀ V, Fo A V → k ≠ V := fun V hV e' => by
    subst e'
    obtain ⟨cs', e2, fr', q1, -⟩ := hV
    rw [q1] at hk; cases hk; cases hc
  exact (h.block k (Array.getElem?_eq_some_iff.1 hk).1 (key T hT) (key u hu)).trans hk⟩

/-- The rows that stand while one operation is under way. -/
structure SC (w : World) (p6 p7 p9 p11 p12 p13 T ord : Nat) (b4 b5 b7 : Nat) (opv : Array Value) (fv : Value) (Bw : Option Addr) (nw cw : Nat) (P0 : List Pr) (lo hi : ByteArray) (k : Nat) (P : List Pr) (X : World) : Prop where
  r6 : R1 X p6 (.bool false) 4
  on : ∃ B m d, On X p7 0 T ord B m d P
  r9 : X.heap[p9]? = some (.cells opv 33 (0, 0))
  r11 : R1 X p11 fv 39
  r12 : R1 X p12 (.slice Bw nw cw) 25
  r13 : R1 X p13 (.int .i64 (k : Nat)) 3
  pb : PB X Bw nw (scanP P0 lo hi)
  sc : ScAt X b4 b5 b7 ord P0 lo hi
  gw : Gw w X
structure SD (w : World) (p6 p7 p9 p11 p12 p13 T : Nat) : Prop where
  a : p6 ≠ p7 ∧ p9 ≠ p7 ∧ p11 ≠ p7 ∧ p12 ≠ p7 ∧ p13 ≠ p7
  b : p6 ≠ T ∧ p9 ≠ T ∧ p11 ≠ T ∧ p12 ≠ T ∧ p13 ≠ T
  c : p6 ≠ p13 ∧ p9 ≠ p13 ∧ p11 ≠ p13 ∧ p12 ≠ p13
  d : w.heap.size ≤ p7 ∧ w.heap.size ≤ T ∧ w.heap.size ≤ p13
section
variable {w X Y : World} {p6 p7 p9 p11 p12 p13 T ord b4 b5 b7 nw cw k : Nat} {opv : Array Value} {fv : Value} {Bw : Option Addr} {P0 P Q : List Pr} {lo hi : ByteArray}
theorem rowgw {X Y : World} {b : Nat} {o : Obj} (h : X.heap[b]? = some o) (g : Gw X Y) : Y.heap[b]? = some o := (Below.block g b (Array.getElem?_eq_some_iff.1 h).1).trans h
theorem SC.gwE (h : SC w p6 p7 p9 p11 p12 p13 T ord b4 b5 b7 opv fv Bw nw cw P0 lo hi k P X) (g : Gw X Y) : SC w p6 p7 p9 p11 p12 p13 T ord b4 b5 b7 opv fv Bw nw cw P0 lo hi k P Y := by
  obtain ⟨B, m, d, o⟩ := h.on
  exact ⟨h.r6.gw g, ⟨B, m, d, o.gw g⟩, rowgw h.r9 g, h.r11.gw g, h.r12.gw g, h.r13.gw g, h.pb.gw g, h.sc.kn g.keepN, h.gw.trans g⟩
theorem SC.turn (h : SC w p6 p7 p9 p11 p12 p13 T ord b4 b5 b7 opv fv Bw nw cw P0 lo hi k P X) {l : Nat} {o : Obj} (o' : Obj) (hw : w.heap.size ≤ l) (hl : X.heap[l]? = some o) (hc : o.isCells = false) : SC w p6 p7 p9 p11 p12 p13 T ord b4 b5 b7 opv fv Bw nw cw P0 lo hi k P (X.putObj l o') := by
  obtain ⟨B, m, d, on⟩ := h.on
  exact ⟨h.r6.turn o' hl hc, ⟨B, m, d, on.turn o' hl hc⟩, (World.putObj_heap_other (fun e => by subst e; have := h.r9; rw [this] at hl; cases hl; cases hc)).trans h.r9, h.r11.turn o' hl hc, h.r12.turn o' hl hc, h.r13.turn o' hl hc, h.pb.turn o' hl hc, h.sc.kn (KeepN.turn X l o o' hl hc), below_turn (o := o) (b := 0) h.gw (Nat.le_refl _) hw o'⟩
theorem SC.step (h : SC w p6 p7 p9 p11 p12 p13 T ord b4 b5 b7 opv fv Bw nw cw P0 lo hi k P X) (D : SD w p6 p7 p9 p11 p12 p13 T) (k' : Nat) :
    SC w p6 p7 p9 p11 p12 p13 T ord b4 b5 b7 opv fv Bw nw cw P0 lo hi k' P (X.setCell ⟨p13, 0, none⟩ (.int .i64 (k' : Nat))) ∧ KeepN X (X.setCell ⟨p13, 0, none⟩ (.int .i64 (k' : Nat))) := by
  have fo := h.r13.fo (by decide) (by decide) (by decide)
  have xs : Xt p13 X (X.setCell ⟨p13, 0, none⟩ (.int .i64 (k' : Nat))) := Xt.set (Gw.refl _) 0 _
  obtain ⟨B, m, d, on⟩ := h.on
  exact ⟨⟨h.r6.far D.c.1 _, ⟨B, m, d, on.xt xs fo D.a.2.2.2.2.symm D.b.2.2.2.2.symm⟩, (Below.heap_setCell _ _ _ _ D.c.2.1).trans h.r9, h.r11.far D.c.2.2.1 _, h.r12.far D.c.2.2.2 _, h.r13.set _, xs.pb fo h.pb, h.sc.kn (xs.keepN fo), Xt.below h.gw xs D.d.2.2⟩, xs.keepN fo⟩
theorem SC.xt (h : SC w p6 p7 p9 p11 p12 p13 T ord b4 b5 b7 opv fv Bw nw cw P0 lo hi k P X) {U : Nat} (x : Xt U X Y) (fo : Fo X U) (hU : p6 ≠ U ∧ p7 ≠ U ∧ p9 ≠ U ∧ p11 ≠ U ∧ p12 ≠ U ∧ p13 ≠ U ∧ T ≠ U) (hw : w.heap.size ≤ U) : SC w p6 p7 p9 p11 p12 p13 T ord b4 b5 b7 opv fv Bw nw cw P0 lo hi k P Y := by
  obtain ⟨B, m, d, on⟩ := h.on
  have bl : ∀ {b : Nat} {o : Obj}, X.heap[b]? = some o → b ≠ U → Y.heap[b]? = some o := fun q q1 => (x.block _ (Array.getElem?_eq_some_iff.1 q).1 q1).trans q
  exact ⟨bl h.r6 hU.1, ⟨B, m, d, on.xt x fo hU.2.1 hU.2.2.2.2.2.2⟩, bl h.r9 hU.2.2.1, bl h.r11 hU.2.2.2.1, bl h.r12 hU.2.2.2.2.1, bl h.r13 hU.2.2.2.2.2.1, x.pb fo h.pb, h.sc.kn (x.keepN fo), Xt.below h.gw x hw⟩
theorem SC.change (h : SC w p6 p7 p9 p11 p12 p13 T ord b4 b5 b7 opv fv Bw nw cw P0 lo hi k P X) (D : SD w p6 p7 p9 p11 p12 p13 T) (hc : ChIs p7 0 T ord Q X Y) :
    SC w p6 p7 p9 p11 p12 p13 T ord b4 b5 b7 opv fv Bw nw cw P0 lo hi k Q Y ∧ KeepN X Y ∧ KeepsOthers X Y := by
  obtain ⟨B, m, d, on⟩ := h.on
  obtain ⟨B', m', d', on', x, -⟩ := hc
  have kn := x.keepN on.tr.fo on.fo
  have bl : ∀ {b : Nat} {o : Obj}, X.heap[b]? = some o → b ≠ T → b ≠ p7 → Y.heap[b]? = some o := fun q q1 q2 => (x.block _ (Array.getElem?_eq_some_iff.1 q).1 q1 q2).trans q
  exact ⟨⟨bl h.r6 D.b.1 D.a.1, ⟨B', m', d', on'⟩, bl h.r9 D.b.2.1 D.a.2.1, bl h.r11 D.b.2.2.1 D.a.2.2.1, bl h.r12 D.b.2.2.2.1 D.a.2.2.2.1, bl h.r13 D.b.2.2.2.2 D.a.2.2.2.2, ⟨h.pb.1, kn.vb h.pb.2⟩, h.sc.kn kn, X2.below h.gw x D.d.2.1 D.d.1⟩, kn, others_x2 x on.tr.fo on.fo⟩
end
end Go.Proofs.Ytlhpoliiojekeaa
