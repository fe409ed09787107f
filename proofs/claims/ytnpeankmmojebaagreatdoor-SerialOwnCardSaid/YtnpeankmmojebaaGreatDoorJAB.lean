import Derived.Test.YtnpeankmmojebaaGreatDoorJAA
import Derived.Deep.MidRow
import Derived.Deep.RegionHeld3
import Derived.Deep.DeepAppendWide
import Derived.Deep.AppendLies
import Derived.Deep.LoopGhost
/- Words for memory of a disk: what a step may turn, rows of cells with elements of more than one cell. -/
set_option linter.unusedVariables false
namespace Go.Proofs.YtnpeankmmojebaaGreatDoor
set_option maxRecDepth 100000
open Go.RowKit

/-- Of the blocks of w none has turned but those that F allows. -/
structure Out (F : Nat → Prop) (w w' : World) : Prop where
  os : w'.os = w.os
  tape : w'.tape = w.tape
  output : w'.output = w.output
  size : w.heap.size ≤ w'.heap.size
  block : ∀ k, k < w.heap.size → ¬ F k → w'.heap[k]? = w.heap[k]?

section
variable {F F' : Nat → Prop} {a b c w w' : World}
theorem Out.refl (F : Nat → Prop) (w : World) : Out F w w := ⟨rfl, rfl, rfl, Nat.le_refl _, fun _ _ _ => rfl⟩
theorem Out.trans (h : Out F a b) (k : Out F' b c) (hF : ∀ i, i < a.heap.size → F' i → F i) : Out F a c :=
  ⟨k.os.trans h.os, k.tape.trans h.tape, k.output.trans h.output, Nat.le_trans h.size k.size, fun i hi hn => (k.block i (Nat.lt_of_lt_of_le hi h.size) (fun h' => hn (hF i hi h'))).trans (h.block i hi hn)⟩
theorem Out.then (h : Out F a b) (k : Out F b c) : Out F a c := h.trans k fun _ _ h => h
theorem Out.mono (h : Out F a b) (hF : ∀ i, i < a.heap.size → F i → F' i) : Out F' a b := ⟨h.os, h.tape, h.output, h.size, fun i hi hn => h.block i hi fun h' => hn (hF i hi h')⟩
theorem Out.of_below (h : Below a.heap.size a b) (F : Nat → Prop) : Out F a b := ⟨h.os, h.tape, h.output, h.size, fun i hi _ => h.block i hi⟩
theorem Out.below (h : Out F a b) {B : Nat} (hB : B ≤ a.heap.size) (hF : ∀ i, i < B → ¬ F i) : Below B a b := ⟨h.os, h.tape, h.output, h.size, fun i hi => h.block i (Nat.lt_of_lt_of_le hi hB) (hF i hi)⟩
theorem Out.drew (h : Out F a b) : Out F a b.drew := h.then ⟨rfl, rfl, rfl, Nat.le_refl _, fun _ _ _ => rfl⟩
theorem Out.alloc (h : Out F a b) (o : Obj) : Out F a (b.alloc o) := h.then ⟨rfl, rfl, rfl, by simp, fun k hk _ => Below.heap_alloc _ _ _ hk⟩
theorem Out.setCell (h : Out F a b) {p : Addr} (hp : F p.block ∨ a.heap.size ≤ p.block) (u : Value) : Out F a (b.setCell p u) :=
  ⟨h.os, h.tape, h.output, by simpa [World.setCell] using h.size, fun k hk hn => (Below.heap_setCell _ _ _ _ (by rintro rfl; rcases hp with hp | hp; exact hn hp; omega)).trans (h.block k hk hn)⟩
theorem heap_setCells (g : Nat) : ∀ (vs : List Value) (o : Nat) (w : World) (k : Nat), k ≠ g → (w.setCells g o vs).heap[k]? = w.heap[k]?
  | [], _, _, _, _ => rfl
  | v :: r, o, w, k, h => by rw [World.setCells, heap_setCells g r (o + 1) _ k h, Below.heap_setCell _ _ _ _ h]
theorem setCells_rest (g : Nat) : ∀ (vs : List Value) (o : Nat) (w : World), (w.setCells g o vs).os = w.os ∧ (w.setCells g o vs).tape = w.tape ∧ (w.setCells g o vs).output = w.output ∧ (w.setCells g o vs).heap.size = w.heap.size
  | [], _, _ => ⟨rfl, rfl, rfl, rfl⟩
  | v :: r, o, w => by
    obtain ⟨h1, h2, h3, h4⟩ := setCells_rest g r (o + 1) (w.setCell ⟨g, o, none⟩ v)
    exact ⟨h1, h2, h3, h4.trans (by simp [World.setCell])⟩
theorem Out.setCells (h : Out F a b) {g : Nat} (hp : F g ∨ a.heap.size ≤ g) (o : Nat) (vs : List Value) : Out F a (b.setCells g o vs) := by
  obtain ⟨h1, h2, h3, h4⟩ := setCells_rest g vs o b
  refine ⟨h1.trans h.os, h2.trans h.tape, h3.trans h.output, by rw [h4]; exact h.size, fun k hk hn => (heap_setCells g vs o b k ?_).trans (h.block k hk hn)⟩
  rintro rfl
  rcases hp with hp | hp
  · exact hn hp
  · omega
theorem Out.grown (h : Out F a b) {row : Option Nat} (hg : b.grownBy c row) (hr : ∀ k, row = some k → F k ∨ a.heap.size ≤ k) : Out F a c :=
  ⟨hg.os.trans h.os, hg.tape.trans h.tape, hg.output.trans h.output, Nat.le_trans h.size hg.size, fun k hk hn =>
    (hg.block k (Nat.lt_of_lt_of_le hk h.size) (fun e => by rcases hr k e.symm with h1 | h1; exact hn h1; omega)).trans (h.block k hk hn)⟩
theorem Out.cell (h : Out F w w') {p : Addr} {v : Value} (hc : w.cell? p = some v) (hF : ¬ F p.block) : w'.cell? p = some v :=
  (World.cell?_of_block (w := w) (h.block p.block (World.block_lt_of_cell? w p hc) hF)).trans hc
theorem Out.rb {A : Option Addr} {n : Nat} {zs : List Int} (h : Out F w w') (hr : RB w A n zs) (hF : ∀ ad, A = some ad → 0 < n → ¬ F ad.block) : RB w' A n zs :=
  ⟨hr.len, hr.byte, fun hn => by
    obtain ⟨ad, e, hc⟩ := hr.cell hn
    exact ⟨ad, e, fun j hj => h.cell (hc j hj) (by rw [block_add]; exact hF ad e hn)⟩⟩
end

/-! ### Rows whose elements have several cells -/
/-- The cells from o on become vs. -/
def putL : List Value → Nat → List Value → List Value
  | xs, _, [] => xs
  | xs, o, v :: r => putL (xs.set o v) (o + 1) r
theorem putL_len : ∀ (vs : List Value) (xs : List Value) (o : Nat), (putL xs o vs).length = xs.length
  | [], _, _ => rfl
  | v :: r, xs, o => by rw [putL, putL_len r]; simp
theorem putL_get : ∀ (vs : List Value) (xs : List Value) (o j : Nat), o + vs.length ≤ xs.length → (putL xs o vs)[j]? = if o ≤ j ∧ j < o + vs.length then vs[j - o]? else xs[j]?
  | [], xs, o, j, h => by simp [putL]; omega
  | v :: r, xs, o, j, h => by
    rw [putL, putL_get r _ _ _ (by simp at h ⊢; omega)]
    simp only [List.length_cons] at h ⊢
    rcases Nat.lt_trichotomy j o with h1 | h1 | h1
    · rw [if_neg (by omega), if_neg (by omega), List.getElem?_set_ne (by omega)]
    · subst h1
      rw [if_neg (by omega), if_pos (by omega), List.getElem?_set_self (by omega)]
      simp
    · by_cases h2 : j < o + (r.length + 1)
      · rw [if_pos (by omega), if_pos (by omega), show j - o = (j - (o + 1)) + 1 by omega, List.getElem?_cons_succ]
      · rw [if_neg (by omega), if_neg (by omega), List.getElem?_set_ne (by omega)]

section
variable {w : World} {base : Nat} {e : TypeId} {size n g cap : Nat} {xs : List Value}
theorem own_range (h : w.ownsRow base e size (.slice (some ⟨g, 0, none⟩) n cap) n xs) (o m : Nat) : w.rangeAt g o ((xs.drop o).take m) := fun j v hv => by
  rw [List.getElem?_take] at hv
  split at hv
  · rw [List.getElem?_drop] at hv
    have hlt : o + j < xs.length := (List.getElem?_eq_some_iff.1 hv).1
    rw [h.cellAt (o + j) (by rw [← h.1]; exact hlt), hv]
  · cases hv
theorem own_there (h : w.ownsRow base e size (.slice (some ⟨g, 0, none⟩) n cap) n xs) (o m : Nat) (hm : o + m ≤ xs.length) : w.there g o m := fun j hj =>
  ⟨by rw [h.cellAt (o + j) (by rw [← h.1]; omega), List.getElem?_eq_getElem (by omega)]; rfl, h.frozenAt _⟩
theorem own_setCells : ∀ (vs : List Value) (o : Nat) {w : World} {xs : List Value}, w.ownsRow base e size (.slice (some ⟨g, 0, none⟩) n cap) n xs → (w.setCells g o vs).ownsRow base e size (.slice (some ⟨g, 0, none⟩) n cap) n (putL xs o vs)
  | [], _, _, _, h => h
  | v :: r, o, _, _, h => own_setCells r (o + 1) (h.stored o v).1
end

/-- What a row owns stays, where its block stays. -/
theorem own_stays {w w' : World} {base : Nat} {e : TypeId} {size n : Nat} {v : Value} {xs : List Value} (h : w.ownsRow base e size v n xs) (hk : ∀ k, v.ownBlock = some k → w'.heap[k]? = w.heap[k]?) : w'.ownsRow base e size v n xs := by
  refine ⟨h.1, ?_⟩
  rcases h.2 with h0 | ⟨g, cap, cur, rfl, hg, hh, r⟩
  · exact .inl h0
  · exact .inr ⟨g, cap, cur, rfl, hg, (hk g rfl).trans hh, r⟩
theorem own_base {w : World} {base base' : Nat} {e : TypeId} {size n : Nat} {v : Value} {xs : List Value} (h : w.ownsRow base e size v n xs) (hb : ∀ k, v.ownBlock = some k → base' ≤ k) : w.ownsRow base' e size v n xs := by
  refine ⟨h.1, ?_⟩
  rcases h.2 with h0 | ⟨g, cap, cur, rfl, _, hh, r⟩
  · exact .inl h0
  · exact .inr ⟨g, cap, cur, rfl, hb g rfl, hh, r⟩

/-! ### Lists of elements, cell by cell -/
section
variable {α : Type} (f : α → List Value) (s : Nat)
theorem flat_len (hs : ∀ x, (f x).length = s) (l : List α) : (l.flatMap f).length = l.length * s := by
  induction l with
  | nil => simp
  | cons x r ih => simp only [List.flatMap_cons, List.length_append, ih, hs, List.length_cons, Nat.add_mul]; omega
end
section
variable {α : Type} {f : α → List Value} {s : Nat}
theorem flat_len' : ∀ (l : List α) (hs : ∀ x ∈ l, (f x).length = s), (l.flatMap f).length = l.length * s
  | [], _ => by simp
  | x :: r, hs => by
    simp only [List.flatMap_cons, List.length_append, flat_len' r (fun y hy => hs y (List.mem_cons_of_mem _ hy)), hs x (List.mem_cons_self ..), List.length_cons, Nat.add_mul]; omega
theorem flat_get : ∀ (l : List α) (hs : ∀ x ∈ l, (f x).length = s) (i j : Nat), j < s → (l.flatMap f)[i * s + j]? = (l[i]?).bind fun x => (f x)[j]?
  | [], _, i, j, _ => by simp
  | x :: r, hs, i, j, hj => by
    have hx := hs x (List.mem_cons_self ..)
    rw [List.flatMap_cons]
    cases i with
    | zero => rw [List.getElem?_append_left (by omega)]; simp
    | succ i =>
      rw [List.getElem?_append_right (by rw [hx, Nat.add_mul]; omega), hx, show (i + 1) * s + j - s = i * s + j by rw [Nat.add_mul]; omega, flat_get r (fun y hy => hs y (List.mem_cons_of_mem _ hy)) i j hj]
      simp
theorem flat_part (l : List α) (hs : ∀ x ∈ l, (f x).length = s) (i : Nat) (hi : i < l.length) : ((l.flatMap f).drop (i * s)).take s = f l[i] := by
  apply List.ext_getElem?
  intro j
  rw [List.getElem?_take]
  split
  · rename_i hj
    rw [List.getElem?_drop, flat_get l hs i j hj, List.getElem?_eq_getElem hi]; rfl
  · rw [List.getElem?_eq_none (by rw [hs _ (List.getElem_mem hi)]; omega)]
theorem flat_put (l : List α) (hs : ∀ x ∈ l, (f x).length = s) (i : Nat) (hi : i < l.length) (x : α) (hx : (f x).length = s) : putL (l.flatMap f) (i * s) (f x) = (l.set i x).flatMap f := by
  have hs2 : ∀ y ∈ l.set i x, (f y).length = s := fun y hy => by
    rcases List.mem_or_eq_of_mem_set hy with h | rfl
    · exact hs y h
    · exact hx
  have hle : i * s + s ≤ l.length * s := by
    have := Nat.mul_le_mul_right s (show i + 1 ≤ l.length from hi)
    rw [Nat.add_mul] at this; omega
  have hfl := flat_len' l hs
  apply List.ext_getElem?
  intro j
  rw [putL_get _ _ _ _ (by rw [hx, hfl]; exact hle), hx]
  rcases Nat.eq_zero_or_pos s with h0 | h0
  · subst h0
    rw [if_neg (by omega), List.getElem?_eq_none (by rw [hfl]; omega), List.getElem?_eq_none (by rw [flat_len' _ hs2]; omega)]
  · have e : j = (j / s) * s + j % s := by rw [Nat.mul_comm]; exact (Nat.div_add_mod j s).symm
    have hm := Nat.mod_lt j h0
    generalize hq : j / s = q at e
    generalize hr : j % s = r at e hm
    clear hq hr
    subst e
    rw [flat_get _ hs2 q r hm]
    by_cases hqi : q = i
    · subst hqi
      rw [if_pos (by omega), List.getElem?_set_self hi]
      simp [show q * s + r - q * s = r by omega]
    · have hne : ¬ (i * s ≤ q * s + r ∧ q * s + r < i * s + s) := by
        rcases Nat.lt_or_gt_of_ne hqi with h1 | h1
        · have := Nat.mul_le_mul_right s (show q + 1 ≤ i from h1)
          rw [Nat.add_mul] at this; omega
        · have := Nat.mul_le_mul_right s (show i + 1 ≤ q from h1)
          rw [Nat.add_mul] at this; omega
      rw [if_neg hne, List.getElem?_set_ne (Ne.symm hqi), flat_get _ hs q r hm]
end
end Go.Proofs.YtnpeankmmojebaaGreatDoor

/- Layer 11: a range over a function whose iterator makes memory of its own. -/
namespace Go.Proofs.YtnpeankmmojebaaGreatDoor
set_option maxRecDepth 100000
set_option maxRecDepth 100000
open Go.RowKit

/-- What an iterator's value promises, where the iterator has memory of its own making. -/
def HandsB {α : Type} (F : Fence) (n : Nat) (P : Program) (g : Nat) (lb : Array Value) (encs : α → Array Value) (ok : List α → α → World → Prop) (keep : World → World → Prop)
    (all part : List α → Prop) (w : World) : Prop :=
  ∀ (l : Nat) (J Jx : List α → World → Prop) (W : World), Below w.heap.size w W → (∀ s, Stays (J s)) → (∀ s, Stays (Jx s)) → (∀ s A B, J s A → Out (fun k => W.heap.size ≤ k) A B → J s B) →
    (∀ pre x A, J pre A → ok pre x A → YieldAt F (n - 1) P l (encs x) A fun e B =>
      (e = .returned (.bool true) ∧ J (pre ++ [x]) B ∧ keep A B) ∨ (e = .returned (.bool false) ∧ Jx (pre ++ [x]) B)) →
    J [] W →
    CallsIn F n P g (#[.func (.yield l) #[] #[]] ++ lb) W fun e B => (∃ v, e = .returned v) ∧ ((∃ xs, all xs ∧ J xs B) ∨ (∃ pre, part pre ∧ Jx pre B))
variable {F : Fence} {n : Nat} {P : Program}

theorem wp_handsB {α : Type} {g : Operand} {ps : Array Tmp} {assign body : Code} {Q : Exit → Act → World → Prop} {a : Act} {w : World}
    (hro : F.round = none) (h1 : 1 ≤ n) {gf : Nat} {lb : Array Value} (hg : a.eval g = .func (.func gf) #[] lb) (hFg : F.fn gf) (eg : ∀ args w, (callFunc gf args).run P w = .ok (.enter gf args) w)
    {encs : α → Array Value} {ok : List α → α → World → Prop} {keep : World → World → Prop} {all part : List α → Prop} (hs : HandsB F (n - 1) P gf lb encs ok keep all part w)
    (hkt : ∀ {A B C : World}, keep A B → keep B C → keep A C) (hkb : ∀ (A : World) (l : Nat) (o o' : Obj), w.heap.size ≤ l → A.heap[l]? = some o → o.isCells = false → keep A (A.putObj l o'))
    (hps : ∀ x, (encs x).size = ps.size) (I : List α → World → Prop) (Ix : Code → List α → World → Prop)
    (hI : ∀ s, Stays (I s)) (hI' : ∀ s, Turns w.heap.size (I s)) (hIT : ∀ s A B, I s A → Out (fun k => w.heap.size + 2 ≤ k) A B → I s B) (hX : ∀ c s, Stays (Ix c s)) (hX' : ∀ c s, Turns w.heap.size (Ix c s)) (hO : ∀ s x, Turns w.heap.size (ok s x)) (h0 : I [] w) (hkB : ∀ (A B : World), Below A.heap.size A B → keep A B) (hOB : ∀ s x, Stays (ok s x)) (Ax : α → Act → World → Prop) (hAx : ∀ x a', Turns w.heap.size (Ax x a'))
    (hassign : ∀ (l : Nat) (x : α) (W : World) (K : Act → World → Prop), w.heap.size ≤ W.heap.size → (∀ a' W', Ax x a' W' → Below W.heap.size W W' → K a' W') →
      assign.wpIn (F.inRound l) (n - 1 - 1) P (Exit.then K (fun _ _ _ => False)) { tmps := (ps.zip (encs x)).foldl (fun t (p, v) => t.setIfInBounds p v) a.tmps, defers := [] } W)
    (hbody : ∀ (l : Nat) (pre : List α) (x : α) (a' : Act) (W : World), w.heap.size ≤ W.heap.size → Ax x a' W → I pre W → ok pre x W → body.wpIn (F.inRound l) (n - 1 - 1) P (ownPostK keep I Ix (pre ++ [x]) W) a' W)
    (hdone : ∀ (D : Nat) (xs : List α) (W : World), w.heap.size ≤ D → all xs → I xs W → W.heap[D]? = some (.deferred (some [])) → Q .normal { a with defers := { target := .collected D, args := #[] } :: a.defers } W)
    (hstop : ∀ (D : Nat) (c : Code) (pre : List α) (W : World), w.heap.size ≤ D → part pre → Ix c pre W → W.heap[D]? = some (.deferred (some [])) → c.wpIn F n P Q { a with defers := { target := .collected D, args := #[] } :: a.defers } W) :
    (Code.rangeFunc g ps assign body).wpIn F n P Q a w := by
  refine wpIn_rangeFunc fun fn hfn => ?_
  rw [hro]
  obtain ⟨D, hD⟩ : ∃ D, D = w.heap.size := ⟨_, rfl⟩
  obtain ⟨W1, hW1⟩ : ∃ W1, W1 = (w.alloc (.deferred (some []))).alloc (.loop { state := .ready, pending := none, fn, tmps := a.tmps, params := ps, assign, body, defers := w.heap.size }) := ⟨_, rfl⟩
  obtain ⟨rc, hrc⟩ : ∃ rc : LoopState → Option Code → Obj, rc = fun st pe => .loop { state := st, pending := pe, fn, tmps := a.tmps, params := ps, assign, body, defers := w.heap.size } := ⟨_, rfl⟩
  have hne : ∀ st pe, (rc st pe).isCells = false := fun st pe => by rw [hrc]; rfl
  have b1 : Below w.heap.size w W1 := by rw [hW1]; exact ((Below.refl _ w).alloc (Nat.le_refl _) _).alloc (by simp) _
  have q1 : W1.heap[D + 1]? = some (rc .ready none) := by
    rw [hW1, hrc, hD]
    have := World.alloc_heap_new (w.alloc (.deferred (some []))) (.loop { state := .ready, pending := none, fn, tmps := a.tmps, params := ps, assign, body, defers := w.heap.size })
    rwa [World.size_alloc] at this
  have q2 : W1.heap[D]? = some (.deferred (some [])) := by
    rw [hW1, hD]
    exact (Below.heap_alloc _ _ _ (by simp)).trans (World.alloc_heap_new w _)
  have hsW1 : W1.heap.size = w.heap.size + 2 := by rw [hW1]; simp
  refine ⟨w.heap.size + 1, [{ target := .collected w.heap.size, args := #[] }], W1, { target := .fn (.func gf) lb, args := #[.func (.yield (w.heap.size + 1)) #[] #[]] }, W1, gf,
    #[.func (.yield (w.heap.size + 1)) #[] #[]] ++ lb, W1, by rw [hW1]; exact run_enterLoop_outer _ _ _ _ _, ?_, ?_, ?_, fun _ => h1, ?_⟩
  · simp only [resolve, hg]
    simp [go_sem]
  · intro f' hf'
    simp [Target.leads] at hf'
    subst hf'
    exact hFg
  · simp [invoke, go_sem, eg]
  rw [← hD]
  refine (hs (D + 1) (fun pre W => I pre W ∧ W.heap[D + 1]? = some (rc .ready none) ∧ W.heap[D]? = some (.deferred (some [])))
    (fun pre W => ∃ c, Ix c pre W ∧ W.heap[D + 1]? = some (rc .done (some c)) ∧ W.heap[D]? = some (.deferred (some []))) W1 b1
    (fun s A B h hb => ⟨hI s A B h.1 hb, stays_at A B h.2.1 hb, stays_at A B h.2.2 hb⟩)
    (fun s A B h hb => by obtain ⟨c, x, y, z⟩ := h; exact ⟨c, hX c s A B x hb, stays_at A B y hb, stays_at A B z hb⟩)
    (fun s A B h ho => ⟨hIT s A B h.1 (ho.mono fun i _ e => by rw [← hsW1]; exact e), (ho.block (D + 1) (Array.getElem?_eq_some_iff.1 h.2.1).1 (fun e => by have e : W1.heap.size ≤ D + 1 := e; omega)).trans h.2.1, (ho.block D (Array.getElem?_eq_some_iff.1 h.2.2).1 (fun e => by have e : W1.heap.size ≤ D := e; omega)).trans h.2.2⟩)
    ?_ ⟨hI _ _ _ h0 b1, q1, q2⟩).mono ?_
  · rintro pre x A ⟨i1, r1, d1⟩ ho
    have hlt : D + 1 < A.heap.size := (Array.getElem?_eq_some_iff.1 r1).1
    have y := run_yield (P := P) (args := encs x) (by rw [r1, hrc]) (hps x)
    have szA : w.heap.size ≤ A.heap.size := by omega
    refine ⟨fn, _, assign, body, y, roundIn_of_wpIn hfn (hassign _ x A _ szA fun a' A' hax hbl => ?_)⟩
    have k0 : keep A A' := hkB _ _ hbl
    replace i1 := hI _ _ _ i1 hbl
    replace r1 := stays_at _ _ r1 hbl
    replace d1 := stays_at _ _ d1 hbl
    replace ho := hOB _ _ _ _ ho hbl
    have hlt : D + 1 < A'.heap.size := (Array.getElem?_eq_some_iff.1 r1).1
    refine ⟨_, run_beginRound (by rw [r1, hrc]) rfl, ?_⟩
    obtain ⟨A2, hA2⟩ : ∃ A2, A2 = A'.putObj (D + 1) (rc .busy none) := ⟨_, rfl⟩
    have e2 : A'.putObj (D + 1) (.loop { state := .busy, pending := none, fn, tmps := a.tmps, params := ps, assign, body, defers := w.heap.size }) = A2 := by rw [hA2, hrc]
    have r2 : A2.heap[D + 1]? = some (rc .busy none) := by rw [hA2]; exact World.putObj_heap_same hlt
    have d2 : A2.heap[D]? = some (.deferred (some [])) := by rw [hA2]; exact (World.putObj_heap_other (by omega)).trans d1
    have x2 : Ax x a' A2 := by rw [hA2]; exact hAx _ _ _ _ _ _ hax (by omega) r1 (hne _ _)
    have k2 : keep A' A2 := by rw [hA2]; exact hkb _ _ _ _ (by omega) r1 (hne _ _)
    have i2 : I pre A2 := by rw [hA2]; exact hI' _ _ _ _ _ i1 (by omega) r1 (hne _ _)
    have o2 : ok pre x A2 := by rw [hA2]; exact hO _ _ _ _ _ _ ho (by omega) r1 (hne _ _)
    have s2 : w.heap.size ≤ A2.heap.size := by have := (Array.getElem?_eq_some_iff.1 r2).1; omega
    have fin : ∀ (jump : Option Code) (B : World), KeepsOthers A2 B → ∃ C, C = B.putObj (D + 1) (rc (if jump.isNone then .ready else .done) jump) ∧
        (Instr.endRound (D + 1) jump).run P B = .ok (.bool jump.isNone) C ∧ B.heap[D + 1]? = some (rc .busy none) ∧ C.heap[D + 1]? = some (rc (if jump.isNone then .ready else .done) jump) ∧ C.heap[D]? = some (.deferred (some [])) := by
      intro jump B hk
      have r3 := hk.same _ _ r2 (hne _ _)
      have d3 := hk.same _ _ d2 rfl
      refine ⟨_, rfl, ?_, r3, World.putObj_heap_same (Array.getElem?_eq_some_iff.1 r3).1, (World.putObj_heap_other (by omega)).trans d3⟩
      have := run_endRound (P := P) jump (by rw [r3, hrc])
      rw [this, hrc]
    have leave : ∀ (c : Code) (B : World), KeepsOthers A2 B → Ix c (pre ++ [x]) B → ∃ v C, (Instr.endRound (D + 1) (some c)).run P B = .ok v C ∧
        ((Ending.returned v = .returned (.bool true) ∧ (I (pre ++ [x]) C ∧ C.heap[D + 1]? = some (rc .ready none) ∧ C.heap[D]? = some (.deferred (some []))) ∧ keep A C) ∨
         (Ending.returned v = .returned (.bool false) ∧ ∃ c, Ix c (pre ++ [x]) C ∧ C.heap[D + 1]? = some (rc .done (some c)) ∧ C.heap[D]? = some (.deferred (some [])))) := by
      intro c B hk hx
      obtain ⟨C, hC, hr, r3, r4, d4⟩ := fin (some c) B hk
      exact ⟨_, _, hr, .inr ⟨rfl, c, by rw [hC]; exact hX' _ _ _ _ _ _ hx (by omega) r3 (hne _ _), r4, d4⟩⟩
    show body.wpIn (F.inRound (D + 1)) (n - 1 - 1) P _ _ _
    refine wpIn_mono (Q := ownPostK keep I Ix (pre ++ [x]) A2) (by rw [← e2] at i2 o2 s2 x2 ⊢; exact hbody _ pre x _ _ s2 x2 i2 o2) ?_
    rintro e a3 B hp
    cases e with
    | normal =>
      obtain ⟨hk, kp, i3⟩ := hp
      obtain ⟨C, hC, hr, r3, r4, d4⟩ := fin none B hk
      exact ⟨_, _, hr, .inl ⟨rfl, ⟨by rw [hC]; exact hI' _ _ _ _ _ i3 (by omega) r3 (hne _ _), r4, d4⟩, hkt k0 (hkt (hkt k2 kp) (by rw [hC]; exact hkb _ _ _ _ (by omega) r3 (hne _ _)))⟩⟩
    | ret => exact leave .ret B hp.1 hp.2
    | exit id => exact leave (.exit id) B hp.1 hp.2
    | goto t => exact leave (.goto t) B hp.1 hp.2
    | panic ch => exact hp.elim
    | outgrown => exact hp.elim
  · rintro e B ⟨⟨v, rfl⟩, (⟨xs, hA, i1, r1, d1⟩ | ⟨pre, hp, c, i1, r1, d1⟩)⟩
    · refine ⟨none, _, run_endLoop (by rw [r1, hrc]) (by simp), ?_⟩
      rw [hD] at r1 d1 ⊢
      exact hdone _ xs _ (Nat.le_refl _) hA (hI' _ _ _ _ _ i1 (by omega) r1 (hne _ _)) ((World.putObj_heap_other (by omega)).trans d1)
    · refine ⟨some c, _, run_endLoop (by rw [r1, hrc]) (by simp), ?_⟩
      rw [hD] at r1 d1 ⊢
      exact hstop _ c pre _ (Nat.le_refl _) hp (hX' _ _ _ _ _ _ i1 (by omega) r1 (hne _ _)) ((World.putObj_heap_other (by omega)).trans d1)


/-- A block of one cell. -/
def Vx (X : World) (b : Nat) (v : Value) (t : TypeId) : Prop := X.heap[b]? = some (.cells #[v] t (0, 0))
section
variable {X Y : World} {b b2 : Nat} {v : Value} {t : TypeId}
theorem Vx.gw (h : Vx X b v t) (g : Below X.heap.size X Y) : Vx Y b v t := (g.block b (Array.getElem?_eq_some_iff.1 h).1).trans h
theorem Vx.c (h : Vx X b v t) : X.cell? ⟨b, 0, none⟩ = some v := by rw [cell_of_row _ _ _ _ _ _ h]; rfl
theorem Vx.f (h : Vx X b v t) : X.frozen? ⟨b, 0, none⟩ = false := by unfold Vx at h; simp [World.frozen?, h]
theorem Vx.lt (h : Vx X b v t) : b < X.heap.size := (Array.getElem?_eq_some_iff.1 h).1
theorem Vx.set (h : Vx X b v t) (u : Value) : Vx (X.setCell ⟨b, 0, none⟩ u) b u t := by
  unfold Vx at h ⊢
  simp [World.setCell, Array.getElem?_modify, h]
theorem Vx.far (h : Vx X b v t) (hne : b ≠ b2) (u : Value) : Vx (X.setCell ⟨b2, 0, none⟩ u) b v t := (Below.heap_setCell _ _ _ _ hne).trans h
theorem Vx.turn {l : Nat} {o : Obj} (h : Vx X b v t) (o' : Obj) (hl : X.heap[l]? = some o) (hc : o.isCells = false) : Vx (X.putObj l o') b v t :=
  (World.putObj_heap_other (fun e => by subst e; unfold Vx at h; rw [h] at hl; cases hl; cases hc)).trans h
theorem Vx.new (w : World) (v : Value) (t : TypeId) : Vx (w.alloc (.cells #[v] t)) w.heap.size v t := heap_alloc_new w _
end
end Go.Proofs.YtnpeankmmojebaaGreatDoor
