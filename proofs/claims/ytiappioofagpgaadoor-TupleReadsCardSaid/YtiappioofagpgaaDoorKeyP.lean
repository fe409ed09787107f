/- Keys' bytes, as plain lists: what a value's bytes are, what stands behind it. No program is named here. -/
import Derived.Test.YtiappioofagpgaaDoorMem
import Derived.IntWalk
namespace Go.Proofs.YtiappioofagpgaaDoor
open Go.RowKit

/-- The bytes of a value up to their end, and how many of a key's bytes say so. -/
def esc : List Int → Option (List Int × Nat)
  | [] => none
  | c :: r => if c = 0 then
      match r with
      | [] => none
      | d :: r' => if d = 0 then some ([], 2) else if d = 255 then (esc r').map (fun x => (0 :: x.1, x.2 + 2)) else none
    else (esc r).map (fun x => (c :: x.1, x.2 + 1))

def escS (zs : List Int) (i : Nat) (R : List Int) : Option (List Int × Nat) := (esc R).map fun x => (zs ++ x.1, i + x.2)
theorem escS_start (R : List Int) : escS [] 0 R = esc R := by
  unfold escS
  cases esc R <;> simp
theorem escS_nil (zs : List Int) (i : Nat) : escS zs i [] = none := by simp [escS, esc]
theorem escS_one (zs : List Int) (i : Nat) : escS zs i [0] = none := by simp [escS, esc]
theorem escS_end (zs : List Int) (i : Nat) (r : List Int) : escS zs i (0 :: 0 :: r) = some (zs, i + 2) := by simp [escS, esc]
theorem escS_own (zs : List Int) (i : Nat) (r : List Int) : escS zs i (0 :: 255 :: r) = escS (zs ++ [0]) (i + 2) r := by
  simp only [escS, esc]
  simp
  cases esc r <;> simp
  omega
theorem escS_bad (zs : List Int) (i : Nat) (d : Int) (r : List Int) (h0 : d ≠ 0) (h1 : d ≠ 255) : escS zs i (0 :: d :: r) = none := by simp [escS, esc, h0, h1]
theorem escS_step (zs : List Int) (i : Nat) (c : Int) (r : List Int) (h : c ≠ 0) : escS zs i (c :: r) = escS (zs ++ [c]) (i + 1) r := by
  simp only [escS]
  rw [esc.eq_def]
  simp only [h, if_false]
  cases esc r <;> simp
  omega
/-- What a value's bytes are grows as they are read. -/
theorem escS_len {zs : List Int} {i : Nat} {R b : List Int} {n : Nat} (h : escS zs i R = some (b, n)) : zs.length ≤ b.length := by
  unfold escS at h
  cases e : esc R with
  | none => rw [e] at h; simp at h
  | some x => rw [e] at h; simp at h; rw [← h.1]; simp

/-- A value of a key: its kind, its number, its bool, its bytes. -/
structure KV where
  k : Int
  n : Int
  y : Bool
  b : List Int

def num8 (L : List Int) (k : Nat) : Int := (L.take k).foldl (fun u c => u * 256 + c) 0
def keyI (u : Int) : Int := wrap64 (IntKind.u64.wrap (u - 9223372036854775808))

/-- The value that a key's bytes begin with, and how many of them it has; bytes of any number. -/
def tkR : List Int → Option (KV × Nat)
  | [] => none
  | c :: r => if c = 1 then (if 8 ≤ r.length then some (⟨1, keyI (num8 r 8), false, []⟩, 9) else none)
    else if c = 2 then (if 0 < r.length ∧ r.getD 0 0 ≤ 1 then some (⟨2, 0, r.getD 0 0 == 1, []⟩, 2) else none)
    else if c = 3 then (esc r).map fun x => (⟨3, 0, false, x.1⟩, 1 + x.2)
    else none
/-- The same, with no more than 4096 bytes. -/
def tkP (L : List Int) : Option (KV × Nat) := (tkR L).filter fun x => decide (x.1.b.length ≤ 4096)

theorem esc_size : ∀ (m : Nat) (R : List Int), R.length ≤ m → ∀ x, esc R = some x → 2 ≤ x.2 ∧ x.2 ≤ R.length ∧ x.1.length ≤ x.2
  | 0, R, hm, x, h => by
    have : R = [] := List.eq_nil_of_length_eq_zero (by omega)
    subst this; simp [esc] at h
  | m + 1, R, hm, x, h => by
    match R, h with
    | [], h => simp [esc] at h
    | c :: r, h =>
      rw [esc.eq_def] at h
      simp only at h
      simp only [List.length_cons] at hm ⊢
      split at h
      · match r, h with
        | [], h => simp at h
        | d :: r', h =>
          simp only [List.length_cons] at hm ⊢
          simp only at h
          split at h
          · simp at h; subst h; simp
          · split at h
            · cases e : esc r' with
              | none => rw [e] at h; simp at h
              | some y =>
                rw [e] at h; simp at h; subst h
                have := esc_size m r' (by omega) y e
                simp; omega
            · simp at h
      · cases e : esc r with
        | none => rw [e] at h; simp at h
        | some y =>
          rw [e] at h; simp at h; subst h
          have := esc_size m r (by omega) y e
          simp; omega
theorem tkR_size {L : List Int} {x : KV × Nat} (h : tkR L = some x) : 0 < x.2 ∧ x.2 ≤ L.length := by
  match L, h with
  | [], h => simp [tkR] at h
  | c :: r, h =>
    simp only [tkR] at h
    simp only [List.length_cons]
    split at h
    · split at h
      · simp at h; subst h; simp; omega
      · simp at h
    · split at h
      · split at h
        · simp at h; subst h; simp; omega
        · simp at h
      · split at h
        · cases e : esc r with
          | none => rw [e] at h; simp at h
          | some y =>
            rw [e] at h; simp at h; subst h
            have := esc_size _ r (Nat.le_refl _) y e
            simp; omega
        · simp at h
theorem tkP_tkR {L : List Int} {x : KV × Nat} (h : tkP L = some x) : tkR L = some x := by
  unfold tkP at h
  cases e : tkR L with
  | none => rw [e] at h; simp at h
  | some y => rw [e] at h; simp [Option.filter] at h; rw [h.2]

/-- All values, one behind the other; at most 16 of them. -/
def fkG (tk : List Int → Option (KV × Nat)) : Nat → List Int → List KV → Option (List KV)
  | 0, _, _ => none
  | f + 1, L, acc => if L = [] then some acc else
      match tk L with
      | none => none
      | some x => if acc.length = 16 then none else fkG tk f (L.drop x.2) (acc ++ [x.1])

/-- Whatever the fuel, if there is enough of it. -/
theorem fkG_fuel (tk : List Int → Option (KV × Nat)) (htk : ∀ L x, tk L = some x → 0 < x.2) : ∀ (f g : Nat) (L : List Int) (acc : List KV), L.length < f → L.length < g → fkG tk f L acc = fkG tk g L acc
  | 0, g, L, acc, hf, _ => absurd hf (by omega)
  | f + 1, 0, L, acc, _, hg => absurd hg (by omega)
  | f + 1, g + 1, L, acc, hf, hg => by
    simp only [fkG]
    by_cases hL : L = []
    · simp [hL]
    · simp only [hL, if_false]
      cases e : tk L with
      | none => rfl
      | some x =>
        simp only
        have h0 := htk L x e
        have hl : 0 < L.length := List.length_pos_iff.2 hL
        split
        · rfl
        · exact fkG_fuel tk htk f g _ _ (by simp; omega) (by simp; omega)

def fk (tk : List Int → Option (KV × Nat)) (L : List Int) (acc : List KV) : Option (List KV) := fkG tk (L.length + 1) L acc
theorem fk_nil (tk : List Int → Option (KV × Nat)) (acc : List KV) : fk tk [] acc = some acc := by simp [fk, fkG]
theorem fk_none {tk : List Int → Option (KV × Nat)} {L : List Int} (acc : List KV) (hL : L ≠ []) (h : tk L = none) : fk tk L acc = none := by simp [fk, fkG, hL, h]
theorem fk_full {tk : List Int → Option (KV × Nat)} {L : List Int} {acc : List KV} (hL : L ≠ []) (h : acc.length = 16) : fk tk L acc = none := by
  simp only [fk, fkG, hL, if_false]
  cases tk L <;> simp [h]
theorem fk_step {tk : List Int → Option (KV × Nat)} (htk : ∀ L x, tk L = some x → 0 < x.2) {L : List Int} {acc : List KV} {x : KV × Nat} (hL : L ≠ []) (h : tk L = some x) (ha : acc.length ≠ 16) : fk tk L acc = fk tk (L.drop x.2) (acc ++ [x.1]) := by
  have h0 := htk L x h
  have hl : 0 < L.length := List.length_pos_iff.2 hL
  simp only [fk]
  rw [fkG]
  simp only [hL, if_false, h, ha]
  exact fkG_fuel tk htk _ _ _ _ (by simp; omega) (by simp)

def fits (l : List KV) : Bool := l.all fun v => decide (v.b.length ≤ 4096)
/-- The two readers agree: what is too long is refused by the one at once, by the other in the end. -/
theorem fk_agree : ∀ (m : Nat) (L : List Int) (acc : List KV), L.length ≤ m → fits acc = true → fk tkP L acc = (fk tkR L acc).filter fits
  | m, [], acc, _, ha => by rw [fk_nil, fk_nil]; simp [Option.filter, ha]
  | 0, c :: r, acc, hm, _ => absurd hm (by simp)
  | m + 1, c :: r, acc, hm, ha => by
    have hL : c :: r ≠ [] := by simp
    have hP : ∀ L x, tkP L = some x → 0 < x.2 := fun L x h => (tkR_size (tkP_tkR h)).1
    have hR : ∀ L x, tkR L = some x → 0 < x.2 := fun L x h => (tkR_size h).1
    by_cases h16 : acc.length = 16
    · rw [fk_full hL h16, fk_full hL h16]; rfl
    · cases e : tkR (c :: r) with
      | none =>
        rw [fk_none acc hL e, fk_none acc hL (by unfold tkP; rw [e]; rfl)]; rfl
      | some x =>
        have hs := (tkR_size e)
        rw [fk_step hR hL e h16]
        by_cases hx : x.1.b.length ≤ 4096
        · have e2 : tkP (c :: r) = some x := by unfold tkP; rw [e]; simp [Option.filter, hx]
          rw [fk_step hP hL e2 h16]
          exact fk_agree m _ _ (by simp at hm ⊢; omega) (by unfold fits at ha ⊢; simp [ha, hx])
        · have e2 : tkP (c :: r) = none := by unfold tkP; rw [e]; simp [Option.filter, hx]
          rw [fk_none acc hL e2]
          -- whatever follows, the list holds that value
          have key : ∀ (f : Nat) (L : List Int) (acc : List KV), fits acc = false → (fkG tkR f L acc).filter fits = none := by
            intro f
            induction f with
            | zero => intro L acc _; rfl
            | succ f ih =>
              intro L acc hf
              simp only [fkG]
              by_cases hL : L = []
              · simp [hL, Option.filter, hf]
              · simp only [hL, if_false]
                cases tkR L with
                | none => rfl
                | some y =>
                  simp only
                  split
                  · rfl
                  · exact ih _ _ (by unfold fits at hf ⊢; simp [List.all_append, hf])
          exact (key _ _ _ (by unfold fits; simp [hx])).symm
end Go.Proofs.YtiappioofagpgaaDoor
