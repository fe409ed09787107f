import Derived.Test.YtnpeankmmojebaaGreatDoorJAC
import Derived.Deep.MidRow
import Derived.Deep.RegionHeld3
import Derived.Deep.DeepAppendWide
import Derived.Deep.AppendLies
import Derived.Deep.LoopGhost
/- Words for memory of a disk: what a step may turn, rows of cells with elements of more than one cell. -/
set_option linter.unusedVariables false
namespace Go.Proofs.YtnpeankmmojebaaGreatDoor
set_option maxRecDepth 100000
open Go.RowKit

/-- Of the blocks of w none has turned but those that F allows. -/
structure Out (F : Nat → Prop) (w w' : World) : Prop where
  os : w'.os = w.os
  tape : w'.tape = w.tape
  output : w'.output = w.output
  size : w.heap.size ≤ w'.heap.size
  block : ∀ k, k < w.heap.size → ¬ F k → w'.heap[k]? = w.heap[k]?

section
variable {F F' : Nat → Prop} {a b c w w' : World}
theorem Out.refl (F : Nat → Prop) (w : World) : Out F w w := ⟨rfl, rfl, rfl, Nat.le_refl _, fun _ _ _ => rfl⟩
theorem Out.trans (h : Out F a b) (k : Out F' b c) (hF : ∀ i, i < a.heap.size → F' i → F i) : Out F a c :=
  ⟨k.os.trans h.os, k.tape.trans h.tape, k.output.trans h.output, Nat.le_trans h.size k.size, fun i hi hn => (k.block i (Nat.lt_of_lt_of_le hi h.size) (fun h' => hn (hF i hi h'))).trans (h.block i hi hn)⟩
theorem Out.then (h : Out F a b) (k : Out F b c) : Out F a c := h.trans k fun _ _ h => h
theorem Out.mono (h : Out F a b) (hF : ∀ i, i < a.heap.size → F i → F' i) : Out F' a b := ⟨h.os, h.tape, h.output, h.size, fun i hi hn => h.block i hi fun h' => hn (hF i hi h')⟩
theorem Out.of_below (h : Below a.heap.size a b) (F : Nat → Prop) : Out F a b := ⟨h.os, h.tape, h.output, h.size, fun i hi _ => h.block i hi⟩
theorem Out.below (h : Out F a b) {B : Nat} (hB : B ≤ a.heap.size) (hF : ∀ i, i < B → ¬ F i) : Below B a b := ⟨h.os, h.tape, h.output, h.size, fun i hi => h.block i (Nat.lt_of_lt_of_le hi hB) (hF i hi)⟩
theorem Out.drew (h : Out F a b) : Out F a b.drew := h.then ⟨rfl, rfl, rfl, Nat.le_refl _, fun _ _ _ => rfl⟩
theorem Out.alloc (h : Out F a b) (o : Obj) : Out F a (b.alloc o) := h.then ⟨rfl, rfl, rfl, by simp, fun k hk _ => Below.heap_alloc _ _ _ hk⟩
theorem Out.setCell (h : Out F a b) {p : Addr} (hp : F p.block ∨ a.heap.size ≤ p.block) (u : Value) : Out F a (b.setCell p u) :=
  ⟨h.os, h.tape, h.output, by simpa [World.setCell] using h.size, fun k hk hn => (Below.heap_setCell _ _ _ _ (by rintro rfl; rcases hp with hp | hp; exact hn hp; omega)).trans (h.block k hk hn)⟩
theorem heap_setCells (g : Nat) : ∀ (vs : List Value) (o : Nat) (w : World) (k : Nat), k ≠ g → (w.setCells g o vs).heap[k]? = w.heap[k]?
  | [], _, _, _, _ => rfl
  | v :: r, o, w, k, h => by rw [World.setCells, heap_setCells g r (o + 1) _ k h, Below.heap_setCell _ _ _ _ h]
theorem setCells_rest (g : Nat) : ∀ (vs : List Value) (o : Nat) (w : World), (w.setCells g o vs).os = w.os ∧ (w.setCells g o vs).tape = w.tape ∧ (w.setCells g o vs).output = w.output ∧ (w.setCells g o vs).heap.size = w.heap.size
  | [], _, _ => ⟨rfl, rfl, rfl, rfl⟩
  | v :: r, o, w => by
    obtain ⟨h1, h2, h3, h4⟩ := setCells_rest g r (o + 1) (w.setCell ⟨g, o, none⟩ v)
    exact ⟨h1, h2, h3, h4.trans (by simp [World.setCell])⟩
theorem Out.setCells (h : Out F a b) {g : Nat} (hp : F g ∨ a.heap.size ≤ g) (o : Nat) (vs : List Value) : Out F a (b.setCells g o vs) := by
  obtain ⟨h1, h2, h3, h4⟩ := setCells_rest g vs o b
  refine ⟨h1.trans h.os, h2.trans h.tape, h3.trans h.output, by rw [h4]; exact h.size, fun k hk hn => (heap_setCells g vs o b k ?_).trans (h.block k hk hn)⟩
  rintro rfl
  rcases hp with hp | hp
  · exact hn hp
  · omega
theorem Out.grown (h : Out F a b) {row : Option Nat} (hg : b.grownBy c row) (hr : ∀ k, row = some k → F k ∨ a.heap.size ≤ k) : Out F a c :=
  ⟨hg.os.trans h.os, hg.tape.trans h.tape, hg.output.trans h.output, Nat.le_trans h.size hg.size, fun k hk hn =>
    (hg.block k (Nat.lt_of_lt_of_le hk h.size) (fun e => by rcases hr k e.symm with h1 | h1; exact hn h1; omega)).trans (h.block k hk hn)⟩
theorem Out.cell (h : Out F w w') {p : Addr} {v : Value} (hc : w.cell? p = some v) (hF : ¬ F p.block) : w'.cell? p = some v :=
  (World.cell?_of_block (w := w) (h.block p.block (World.block_lt_of_cell? w p hc) hF)).trans hc
theorem Out.rb {A : Option Addr} {n : Nat} {zs : List Int} (h : Out F w w') (hr : RB w A n zs) (hF : ∀ ad, A = some ad → 0 < n → ¬ F ad.block) : RB w' A n zs :=
  ⟨hr.len, hr.byte, fun hn => by
    obtain ⟨ad, e, hc⟩ := hr.cell hn
    exact ⟨ad, e, fun j hj => h.cell (hc j hj) (by rw [block_add]; exact hF ad e hn)⟩⟩
end

/-! ### Rows whose elements have several cells -/
/-- The cells from o on become vs. -/
def putL : List Value → Nat → List Value → List Value
  | xs, _, [] => xs
  | xs, o, v :: r => putL (xs.set o v) (o + 1) r
theorem putL_len : ∀ (vs : List Value) (xs : List Value) (o : Nat), (putL xs o vs).length = xs.length
  | [], _, _ => rfl
  | v :: r, xs, o => by rw [putL, putL_len r]; simp
theorem putL_get : ∀ (vs : List Value) (xs : List Value) (o j : Nat), o + vs.length ≤ xs.length → (putL xs o vs)[j]? = if o ≤ j ∧ j < o + vs.length then vs[j - o]? else xs[j]?
  | [], xs, o, j, h => by simp [putL]; omega
  | v :: r, xs, o, j, h => by
    rw [putL, putL_get r _ _ _ (by simp at h ⊢; omega)]
    simp only [List.length_cons] at h ⊢
    rcases Nat.lt_trichotomy j o with h1 | h1 | h1
    · rw [if_neg (by omega), if_neg (by omega), List.getElem?_set_ne (by omega)]
    · subst h1
      rw [if_neg (by omega), if_pos (by omega), List.getElem?_set_self (by omega)]
      simp
    · by_cases h2 : j < o + (r.length + 1)
      · rw [if_pos (by omega), if_pos (by omega), show j - o = (j - (o + 1)) + 1 by omega, List.getElem?_cons_succ]
      · rw [if_neg (by omega), if_neg (by omega), List.getElem?_set_ne (by omega)]

section
variable {w : World} {base : Nat} {e : TypeId} {size n g cap : Nat} {xs : List Value}
theorem own_range (h : w.ownsRow base e size (.slice (some ⟨g, 0, none⟩) n cap) n xs) (o m : Nat) : w.rangeAt g o ((xs.drop o).take m) := fun j v hv => by
  rw [List.getElem?_take] at hv
  split at hv
  · rw [List.getElem?_drop] at hv
    have hlt : o + j < xs.length := (List.getElem?_eq_some_iff.1 hv).1
    rw [h.cellAt (o + j) (by rw [← h.1]; exact hlt), hv]
  · cases hv
theorem own_there (h : w.ownsRow base e size (.slice (some ⟨g, 0, none⟩) n cap) n xs) (o m : Nat) (hm : o + m ≤ xs.length) : w.there g o m := fun j hj =>
  ⟨by rw [h.cellAt (o + j) (by rw [← h.1]; omega), List.getElem?_eq_getElem (by omega)]; rfl, h.frozenAt _⟩
theorem own_setCells : ∀ (vs : List Value) (o : Nat) {w : World} {xs : List Value}, w.ownsRow base e size (.slice (some ⟨g, 0, none⟩) n cap) n xs → (w.setCells g o vs).ownsRow base e size (.slice (some ⟨g, 0, none⟩) n cap) n (putL xs o vs)
  | [], _, _, _, h => h
  | v :: r, o, _, _, h => own_setCells r (o + 1) (h.stored o v).1
end

/-- What a row owns stays, where its block stays. -/
theorem own_stays {w w' : World} {base : Nat} {e : TypeId} {size n : Nat} {v : Value} {xs : List Value} (h : w.ownsRow base e size v n xs) (hk : ∀ k, v.ownBlock = some k → w'.heap[k]? = w.heap[k]?) : w'.ownsRow base e size v n xs := by
  refine ⟨h.1, ?_⟩
  rcases h.2 with h0 | ⟨g, cap, cur, rfl, hg, hh, r⟩
  · exact .inl h0
  · exact .inr ⟨g, cap, cur, rfl, hg, (hk g rfl).trans hh, r⟩
theorem own_base {w : World} {base base' : Nat} {e : TypeId} {size n : Nat} {v : Value} {xs : List Value} (h : w.ownsRow base e size v n xs) (hb : ∀ k, v.ownBlock = some k → base' ≤ k) : w.ownsRow base' e size v n xs := by
  refine ⟨h.1, ?_⟩
  rcases h.2 with h0 | ⟨g, cap, cur, rfl, _, hh, r⟩
  · exact .inl h0
  · exact .inr ⟨g, cap, cur, rfl, hb g rfl, hh, r⟩

/-! ### Lists of elements, cell by cell -/
section
variable {α : Type} (f : α → List Value) (s : Nat)
theorem flat_len (hs : ∀ x, (f x).length = s) (l : List α) : (l.flatMap f).length = l.length * s := by
  induction l with
  | nil => simp
  | cons x r ih => simp only [List.flatMap_cons, List.length_append, ih, hs, List.length_cons, Nat.add_mul]; omega
end
section
variable {α : Type} {f : α → List Value} {s : Nat}
theorem flat_len' : ∀ (l : List α) (hs : ∀ x ∈ l, (f x).length = s), (l.flatMap f).length = l.length * s
  | [], _ => by simp
  | x :: r, hs => by
    simp only [List.flatMap_cons, List.length_append, flat_len' r (fun y hy => hs y (List.mem_cons_of_mem _ hy)), hs x (List.mem_cons_self ..), List.length_cons, Nat.add_mul]; omega
theorem flat_get : ∀ (l : List α) (hs : ∀ x ∈ l, (f x).length = s) (i j : Nat), j < s → (l.flatMap f)[i * s + j]? = (l[i]?).bind fun x => (f x)[j]?
  | [], _, i, j, _ => by simp
  | x :: r, hs, i, j, hj => by
    have hx := hs x (List.mem_cons_self ..)
    rw [List.flatMap_cons]
    cases i with
    | zero => rw [List.getElem?_append_left (by omega)]; simp
    | succ i =>
      rw [List.getElem?_append_right (by rw [hx, Nat.add_mul]; omega), hx, show (i + 1) * s + j - s = i * s + j by rw [Nat.add_mul]; omega, flat_get r (fun y hy => hs y (List.mem_cons_of_mem _ hy)) i j hj]
      simp
theorem flat_part (l : List α) (hs : ∀ x ∈ l, (f x).length = s) (i : Nat) (hi : i < l.length) : ((l.flatMap f).drop (i * s)).take s = f l[i] := by
  apply List.ext_getElem?
  intro j
  rw [List.getElem?_take]
  split
  · rename_i hj
    rw [List.getElem?_drop, flat_get l hs i j hj, List.getElem?_eq_getElem hi]; rfl
  · rw [List.getElem?_eq_none (by rw [hs _ (List.getElem_mem hi)]; omega)]
theorem flat_put (l : List α) (hs : ∀ x ∈ l, (f x).length = s) (i : Nat) (hi : i < l.length) (x : α) (hx : (f x).length = s) : putL (l.flatMap f) (i * s) (f x) = (l.set i x).flatMap f := by
  have hs2 : ∀ y ∈ l.set i x, (f y).length = s := fun y hy => by
    rcases List.mem_or_eq_of_mem_set hy with h | rfl
    · exact hs y h
    · exact hx
  have hle : i * s + s ≤ l.length * s := by
    have := Nat.mul_le_mul_right s (show i + 1 ≤ l.length from hi)
    rw [Nat.add_mul] at this; omega
  have hfl := flat_len' l hs
  apply List.ext_getElem?
  intro j
  rw [putL_get _ _ _ _ (by rw [hx, hfl]; exact hle), hx]
  rcases Nat.eq_zero_or_pos s with h0 | h0
  · subst h0
    rw [if_neg (by omega), List.getElem?_eq_none (by rw [hfl]; omega), List.getElem?_eq_none (by rw [flat_len' _ hs2]; omega)]
  · have e : j = (j / s) * s + j % s := by rw [Nat.mul_comm]; exact (Nat.div_add_mod j s).symm
    have hm := Nat.mod_lt j h0
    generalize hq : j / s = q at e
    generalize hr : j % s = r at e hm
    clear hq hr
    subst e
    rw [flat_get _ hs2 q r hm]
    by_cases hqi : q = i
    · subst hqi
      rw [if_pos (by omega), List.getElem?_set_self hi]
      simp [show q * s + r - q * s = r by omega]
    · have hne : ¬ (i * s ≤ q * s + r ∧ q * s + r < i * s + s) := by
        rcases Nat.lt_or_gt_of_ne hqi with h1 | h1
        · have := Nat.mul_le_mul_right s (show q + 1 ≤ i from h1)
          rw [Nat.add_mul] at this; omega
        · have := Nat.mul_le_mul_right s (show i + 1 ≤ q from h1)
          rw [Nat.add_mul] at this; omega
      rw [if_neg hne, List.getElem?_set_ne (Ne.symm hqi), flat_get _ hs q r hm]
end
end Go.Proofs.YtnpeankmmojebaaGreatDoor
