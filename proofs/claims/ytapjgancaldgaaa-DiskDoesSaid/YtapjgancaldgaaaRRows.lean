/- Rows of pending writes, as the reference lays them anew. -/
import Derived.Test.YtapjgancaldgaaaRAlike
namespace Go.Proofs.Ytapjgancaldgaaa
set_option maxRecDepth 100000
open Go.RowKit

theorem RWait.list {F : Nat → Prop} {w : World} {g cap : Nat} {l : List Wr} {p gd gt : Nat} (h : RWait F w (.slice (some ⟨g, 0, none⟩) l.length cap) l p gd gt) (hn : l ≠ []) :
    ∃ L : List (Value × Value), L.length = l.length ∧ (∀ j u, (L.flatMap pc)[j]? = some u → w.cell? ((⟨g, 0, none⟩ : Addr).add j) = some u) ∧ (∀ u ∈ L.flatMap pc, u.oneCell' = true) ∧
      (∀ (i : Nat) (x : Wr), l[i]? = some x → ∃ b cb, L[i]? = some (.int .i64 (x.p : Int), .slice (some ⟨b, 0, none⟩) 64 cb) ∧ 64 ≤ cb ∧ RB w (some ⟨b, 0, none⟩) 64 x.b ∧ b < w.heap.size ∧ F b ∧ b ≠ p ∧ b ≠ gd ∧ b ≠ gt) := by
  obtain ⟨g', cap', e, _, _, _, _, _, hrow⟩ := h.row hn
  injection e with e1 e2 e3
  injection e1 with e1
  injection e1 with e1
  subst e1
  have hs : ∀ y : Value × Value, (pc y).length = 2 := fun y => rfl
  let L : List (Value × Value) := (List.range l.length).map fun i => ((w.cell? ⟨g, i * 2, none⟩).getD undef, (w.cell? ⟨g, i * 2 + 1, none⟩).getD undef)
  have hL : L.length = l.length := by simp [L]
  have hat : ∀ (i : Nat) (x : Wr), l[i]? = some x → ∃ b cb, L[i]? = some (.int .i64 (x.p : Int), .slice (some ⟨b, 0, none⟩) 64 cb) ∧ w.cell? ⟨g, i * 2, none⟩ = some (.int .i64 (x.p : Int)) ∧ w.cell? ⟨g, i * 2 + 1, none⟩ = some (.slice (some ⟨b, 0, none⟩) 64 cb) ∧ 64 ≤ cb ∧ RB w (some ⟨b, 0, none⟩) 64 x.b ∧ b < w.heap.size ∧ F b ∧ b ≠ p ∧ b ≠ gd ∧ b ≠ gt := fun i x hx => by
    obtain ⟨b, cb, c1, c2, r⟩ := hrow i x hx
    have hil : i < l.length := (List.getElem?_eq_some_iff.1 hx).1
    exact ⟨b, cb, by simp [L, hil, c1, c2], c1, c2, r⟩
  refine ⟨L, hL, fun j u hu => ?_, fun u hu => ?_, fun i x hx => ?_⟩
  · have hj : j < L.length * 2 := by
      have := (List.getElem?_eq_some_iff.1 hu).1
      rwa [flat_len' (s := 2) L (fun y _ => hs y)] at this
    obtain ⟨i, r, hr, rfl⟩ : ∃ i r, r < 2 ∧ j = i * 2 + r := ⟨j / 2, j % 2, by omega, by omega⟩
    rw [flat_get L (fun y _ => hs y) i r hr] at hu
    have hil : i < l.length := by omega
    obtain ⟨x, hx⟩ : ∃ x, l[i]? = some x := ⟨_, List.getElem?_eq_getElem hil⟩
    obtain ⟨b, cb, e1, c1, c2, _⟩ := hat i x hx
    rw [e1] at hu
    rw [Addr.add_mid, Nat.zero_add]
    have : r = 0 ∨ r = 1 := by omega
    rcases this with rfl | rfl
    · simp [pc] at hu; subst hu; exact c1
    · simp [pc] at hu; subst hu; exact c2
  · obtain ⟨y, hy, hu2⟩ := List.mem_flatMap.1 hu
    obtain ⟨i, hi⟩ := List.getElem?_of_mem hy
    have hil : i < l.length := by have := (List.getElem?_eq_some_iff.1 hi).1; omega
    obtain ⟨x, hx⟩ : ∃ x, l[i]? = some x := ⟨_, List.getElem?_eq_getElem hil⟩
    obtain ⟨b, cb, e1, _⟩ := hat i x hx
    rw [hi] at e1
    cases e1
    simp [pc] at hu2
    rcases hu2 with rfl | rfl <;> rfl
  · obtain ⟨b, cb, e1, _, _, r⟩ := hat i x hx
    exact ⟨b, cb, e1, r⟩

theorem rwait_own {F : Nat → Prop} {w : World} {base g cap : Nat} {l : List Wr} {L : List (Value × Value)} {p gd gt : Nat} (own : w.ownsRow base 114 2 (.slice (some ⟨g, 0, none⟩) l.length cap) l.length (L.flatMap pc)) (hn : l ≠ []) (hL : L.length = l.length)
    (hg : F g ∧ g ≠ p ∧ g ≠ gd ∧ g ≠ gt) (hat : ∀ (i : Nat) (x : Wr), l[i]? = some x → ∃ b cb, L[i]? = some (.int .i64 (x.p : Int), .slice (some ⟨b, 0, none⟩) 64 cb) ∧ 64 ≤ cb ∧ RB w (some ⟨b, 0, none⟩) 64 x.b ∧ b < w.heap.size ∧ F b ∧ b ≠ p ∧ b ≠ gd ∧ b ≠ gt) :
    RWait F w (.slice (some ⟨g, 0, none⟩) l.length cap) l p gd gt :=
  ⟨fun e => absurd e hn, fun _ => ⟨g, cap, rfl, (own.lt g rfl).2, hg.1, hg.2.1, hg.2.2.1, hg.2.2.2, fun i x hx => by
    obtain ⟨b, cb, e, r⟩ := hat i x hx
    have hs : ∀ y ∈ L, (pc y).length = 2 := fun y _ => rfl
    have hil : i < l.length := (List.getElem?_eq_some_iff.1 hx).1
    refine ⟨b, cb, ?_, ?_, r⟩
    · rw [own.cellAt (i * 2) (by omega)]
      have := flat_get L hs i 0 (by omega)
      rw [Nat.add_zero] at this
      rw [this, e]; rfl
    · rw [own.cellAt (i * 2 + 1) (by omega), flat_get L hs i 1 (by omega), e]; rfl⟩⟩
end Go.Proofs.Ytapjgancaldgaaa
