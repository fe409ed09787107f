/- Two frames of the same content, one behind the other; slices that the call made, and where they lie. -/
import Derived.Test.YthodmnekljbljaaBack
import Derived.Test.YthodmnekljbljaaWireFramesWalk
import Derived.Test.YthodmnekljbljaaFrames
import Derived.Test.YthodmnekljbljaaCel
namespace Go.Proofs.Ythodmnekljbljaa
open Go.RowKit

theorem takeFrame_drop (zs : List Int) (p : Nat) (h : p ≤ zs.length) : takeFrame zs (p : Nat) = takeFrame (zs.drop p) 0 := by
  have e0 : ¬ ((p : Int) < 0 ∨ (zs.length : Int) < (p : Int)) := by omega
  have e1 : ¬ ((0 : Int) < 0 ∨ ((zs.drop p).length : Int) < 0) := by omega
  unfold takeFrame
  rw [if_neg e0, if_neg e1]
  simp only [Int.toNat_natCast, Int.toNat_zero, List.length_drop, List.drop_drop, Nat.zero_add, Nat.add_zero]
  by_cases h1 : zs.length < p + 8
  · have h1' : zs.length - p < 8 := by omega
    rw [if_pos h1, if_pos h1']
  · have h1' : ¬ zs.length - p < 8 := by omega
    rw [if_neg h1, if_neg h1']
    by_cases h2 : 1048576 < w4 (zs.drop p) ∨ zs.length < p + 8 + w4 (zs.drop p)
    · have h2' : 1048576 < w4 (zs.drop p) ∨ zs.length - p < 8 + w4 (zs.drop p) := by omega
      rw [if_pos h2, if_pos h2']
    · have h2' : ¬ (1048576 < w4 (zs.drop p) ∨ zs.length - p < 8 + w4 (zs.drop p)) := by omega
      rw [if_neg h2, if_neg h2']

theorem takeFrame_small (zs : List Int) (p : Int) : (takeFrame zs p).1.length ≤ zs.length := by
  unfold takeFrame
  split
  · simp
  · split
    · simp
    · split
      · simp
      · split
        · simp
        · simp only [List.length_take, List.length_drop]; omega

/-- What stands at the places of two frames of b. -/
theorem two_at (b : List Int) (hb : ∀ z ∈ b, 0 ≤ z ∧ z ≤ 255) (hl : b.length ≤ 1048576) :
    takeFrame (frameB b ++ frameB b) ((0 : Nat) : Int) = (b, b.length + 8, 0) ∧ takeFrame (frameB b ++ frameB b) ((b.length + 8 : Nat) : Int) = (b, b.length + 8, 0) ∧
      takeFrame (frameB b ++ frameB b) ((b.length + 8 + (b.length + 8) : Nat) : Int) = ([], 0, 10) := by
  have hlen := frameB_len b
  refine ⟨takeFrame_back b _ hb hl, ?_, ?_⟩
  · rw [takeFrame_drop _ _ (by rw [List.length_append]; omega), List.drop_left' hlen]
    have := takeFrame_back b [] hb hl
    rwa [List.append_nil] at this
  · rw [takeFrame_drop _ _ (by rw [List.length_append]; omega), List.drop_eq_nil_of_le (by rw [List.length_append]; omega)]
    rfl

theorem sum_of_all {xs : List Fr} {b : List Int} (h : ∀ x, x ∈ xs → x.2.1 = b) : placeF xs = xs.length * (b.length + 8) := by
  induction xs with
  | nil => simp [placeF]
  | cons x xs ih =>
    have h1 := h x (List.mem_cons_self ..)
    have h2 := ih (fun y hy => h y (List.mem_cons_of_mem _ hy))
    unfold placeF at h2 ⊢
    rw [List.map_cons, List.sum_cons, h2, h1, List.length_cons, Nat.add_mul]
    omega

/-- The frames of what two frames of b are (none, where b is too long). -/
theorem two_frames (b : List Int) (hb : ∀ z ∈ b, 0 ≤ z ∧ z ≤ 255) (pre : List Fr) (h : ∀ x, x ∈ pre → x.2.1 = b) (ct : List Int) (z : Nat)
    (ht : takeFrame ((frameA b).1 ++ (frameA b).1) (placeF pre : Nat) = (ct, z, 0)) : ct = b := by
  rw [sum_of_all h] at ht
  unfold frameA at ht
  split at ht
  · exfalso
    obtain ⟨h1, h2⟩ := takeFrame_fits ht
    simp at h2
    omega
  · rename_i hl
    obtain ⟨a0, a1, a2⟩ := two_at b hb (by omega)
    have hlen := frameB_len b
    dsimp only at ht
    rcases Nat.lt_or_ge pre.length 3 with h3 | h3
    · have : pre.length = 0 ∨ pre.length = 1 ∨ pre.length = 2 := by omega
      rcases this with e | e | e
      · rw [e, Nat.zero_mul, a0] at ht; exact (Prod.mk.inj ht).1.symm
      · rw [e, Nat.one_mul, a1] at ht; exact (Prod.mk.inj ht).1.symm
      · rw [e, Nat.succ_mul, Nat.one_mul, a2] at ht; simp at ht
    · exfalso
      obtain ⟨h1, h2⟩ := takeFrame_fits ht
      rw [List.length_append, hlen] at h2
      have := Nat.mul_le_mul_right (b.length + 8) h3
      omega
theorem two_count (b : List Int) (hb : ∀ z ∈ b, 0 ≤ z ∧ z ≤ 255) (xs : List Fr) (h : ∀ x, x ∈ xs → x.2.1 = b) (ha : allF ((frameA b).1 ++ (frameA b).1) xs) :
    decide (xs.length = 2) = decide (0 < (frameA b).1.length) := by
  obtain ⟨h1, h2⟩ := ha
  rw [sum_of_all h] at h1 h2
  unfold frameA at h1 h2 ⊢
  split
  · rename_i hl
    rw [if_pos hl] at h1
    have h1' : xs.length * (b.length + 8) ≤ 0 := h1
    have : xs.length = 0 := by
      rcases Nat.eq_zero_or_pos xs.length with e | e
      · exact e
      · have := Nat.mul_le_mul_right (b.length + 8) e
        omega
    simp [this]
  · rename_i hl
    rw [if_neg hl] at h1 h2
    obtain ⟨a0, a1, a2⟩ := two_at b hb (by omega)
    have hlen := frameB_len b
    dsimp only at h1 h2 ⊢
    rw [List.length_append, hlen] at h1
    have h3 : xs.length < 3 := by
      rcases Nat.lt_or_ge xs.length 3 with h3 | h3
      · exact h3
      · have := Nat.mul_le_mul_right (b.length + 8) h3
        omega
    have : xs.length = 0 ∨ xs.length = 1 ∨ xs.length = 2 := by omega
    rw [hlen]
    rcases this with e | e | e
    · rw [e, Nat.zero_mul, a0] at h2; exact absurd rfl h2
    · rw [e, Nat.one_mul, a1] at h2; exact absurd rfl h2
    · rw [e]; simp

/-- A slice that the call made, in a block from lo on below hi. -/
def Lies (lo hi : Nat) (w : World) (v : Value) (zs : List Int) : Prop := OB lo w v zs ∧ ∀ k, v.ownBlock = some k → k < hi
theorem Lies.of {lo : Nat} {w : World} {v : Value} {zs : List Int} (h : OB lo w v zs) : Lies lo w.heap.size w v zs := ⟨h, fun k hk => (h.lt k hk).2⟩
theorem Lies.below {lo hi : Nat} {w w' : World} {v : Value} {zs : List Int} (h : Lies lo hi w v zs) (hb : Below w.heap.size w w') : Lies lo hi w' v zs := ⟨h.1.below hb, h.2⟩
theorem Lies.grown {lo hi : Nat} {w w' : World} {row : Option Nat} {v : Value} {zs : List Int} (h : Lies lo hi w v zs) (hg : w.grownBy w' row) (hr : ∀ k, row = some k → k < lo ∨ hi ≤ k) : Lies lo hi w' v zs := by
  refine ⟨⟨h.1.own.kept hg ?_, h.1.byte⟩, h.2⟩
  rcases hv : v.ownBlock with _ | k
  · exact .inl rfl
  · right
    intro e
    have h1 := h.2 k hv
    have h2 := (h.1.lt k hv).1
    rcases hr k e.symm with h3 | h3 <;> omega
theorem Lies.row {lo hi : Nat} {w : World} {v : Value} {zs : List Int} (h : Lies lo hi w v zs) : ∀ k, v.ownBlock = some k → lo ≤ k ∧ k < hi := fun k hk => ⟨(h.1.lt k hk).1, h.2 k hk⟩
theorem Cel.grown {W W' : World} {b : Nat} {v : Value} {row : Option Nat} (h : Cel W b v) (hg : W.grownBy W' row) (hr : ∀ k, row = some k → k ≠ b) : Cel W' b v := by
  have e := hg.block b h.lt (fun e => hr b e.symm rfl)
  exact ⟨(World.cell?_of_block (w := W) (a := ⟨b, 0, none⟩) e).trans h.1, (World.frozen?_of_block (w := W) (a := ⟨b, 0, none⟩) e).trans h.2⟩
theorem others_of_grown {b : Nat} {W W' : World} {v : Value} {zs : List Int} (ho : OB b W v zs) (hg : W.grownBy W' v.ownBlock) : KeepsOthers W W' := by
  refine ⟨hg.size, fun k o hk hc => (hg.block k (Array.getElem?_eq_some_iff.1 hk).1 (fun e => ?_)).trans hk⟩
  rcases ho.own.2 with ⟨rfl, -⟩ | ⟨g, cap, cur, rfl, -, hh, -⟩
  · cases e
  · cases e
    rw [hh] at hk
    cases hk
    cases hc
end Go.Proofs.Ythodmnekljbljaa
