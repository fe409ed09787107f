/- Both disks made anew, beside each other, in a law. -/
import Derived.Test.YtapjgancaldgaaaRPair
namespace Go.Proofs.Ytapjgancaldgaaa
set_option maxRecDepth 100000
open Go.RowKit

def newArr (gd n cd gt ct : Nat) : Array Value := newCells (.slice (some ⟨gd, 0, none⟩) n cd) (.slice (some ⟨gt, 0, none⟩) n ct)
def RNewAt (w : World) (n : Nat) (e : Ending) (w' : World) : Prop :=
  ∃ gd cd gt ct, e = .returned (.tuple #[.agg #[.bool true, .bool false, .int .i64 (-1), .slice (some ⟨gd, 0, none⟩) n cd, .slice (some ⟨gt, 0, none⟩) n ct, .slice none 0 0, .int .i64 0, .int .i64 0], .int .i64 0]) ∧ Below w.heap.size w w' ∧
    RD (fun k => w.heap.size ≤ k) (w'.alloc (.cells #[.bool true, .bool false, .int .i64 (-1), .slice (some ⟨gd, 0, none⟩) n cd, .slice (some ⟨gt, 0, none⟩) n ct, .slice none 0 0, .int .i64 0, .int .i64 0] 31)) w'.heap.size (newS n)
theorem rnew_at (w : World) (n : Nat) (h1 : 1 ≤ n) (h2 : n ≤ 16384) : Calls Try.prog 15 #[.int .i64 (n : Int)] w (RNewAt w n) := by
  refine (rnew w n (by omega)).mono ?_
  rintro e w' (⟨h, -, -⟩ | ⟨-, B, vd, vt, vs, rfl, hp, hb⟩)
  · exact absurd (by omega) h
  · rw [Int.toNat_natCast] at hp
    obtain ⟨gd, cd, rfl, -, -⟩ := hp.d.form (by omega)
    obtain ⟨gt, ct, rfl, -, -⟩ := hp.t.form (by omega)
    exact ⟨gd, cd, gt, ct, rfl, hb, hp.lies h1 h2 hb.size _ rfl⟩
def RNewNo (w : World) (e : Ending) (w' : World) : Prop :=
  e = .returned (.tuple #[.agg #[.bool false, .bool false, .int .i64 0, .slice none 0 0, .slice none 0 0, .slice none 0 0, .int .i64 0, .int .i64 0], .int .i64 1]) ∧ Below w.heap.size w w'
theorem rnew_no (w : World) (n : Int) (hr : -9223372036854775808 ≤ n ∧ n ≤ 9223372036854775807) (h : ¬ (1 ≤ n ∧ n ≤ 16384)) : Calls Try.prog 15 #[.int .i64 n] w (RNewNo w) := by
  refine (rnew w n hr).mono ?_
  rintro e w' (⟨-, h1, h2⟩ | ⟨h1, -⟩)
  · exact ⟨h1, h2⟩
  · exact absurd h1 h

/-- Both disks, in a law that began at w. -/
structure BL (w wr : World) (d p : Nat) (S T : St) (F G : Nat → Prop) : Prop where
  bm : BM wr d p S T F G
  fl : ∀ k, F k → w.heap.size ≤ k
  gl : ∀ k, G k → w.heap.size ≤ k
  b : Below w.heap.size w wr
section
variable {w wr w' : World} {d p : Nat} {S T S' : St} {F G : Nat → Prop}
theorem BL.below (h : BL w wr d p S T F G) (hb : Below wr.heap.size wr w') : BL w w' d p S T F G := ⟨h.bm.below hb, h.fl, h.gl, h.b.trans (hb.mono h.b.size)⟩
theorem BL.alloc (h : BL w wr d p S T F G) (o : Obj) : BL w (wr.alloc o) d p S T F G := h.below ((Below.refl _ _).alloc (Nat.le_refl _) o)
theorem BL.drew (h : BL w wr d p S T F G) : BL w wr.drew d p S T F G := ⟨h.bm.drew, h.fl, h.gl, h.b.drew⟩
theorem BL.stepA (h : BL w wr d p S T F G) (hp : PD (Gr F wr) w' d S') (ho : Out F wr w') : BL w w' d p S' T (fun j => Gr F wr j ∧ j < w'.heap.size) G :=
  ⟨h.bm.stepA hp ho, fun k hk => by
    rcases hk.1 with h1 | h1
    · exact h.fl k h1
    · exact Nat.le_trans h.b.size h1, h.gl, h.b.trans (ho.below h.b.size (fun i hi hf => by have := h.fl i hf; omega))⟩
theorem BL.stepB (h : BL w wr d p S T F G) (hp : RD (Gr G wr) w' p S') (ho : Out G wr w') : BL w w' d p S S' F (fun j => Gr G wr j ∧ j < w'.heap.size) :=
  ⟨h.bm.stepB hp ho, h.fl, fun k hk => by
    rcases hk.1 with h1 | h1
    · exact h.gl k h1
    · exact Nat.le_trans h.b.size h1, h.b.trans (ho.below h.b.size (fun i hi hf => by have := h.gl i hf; omega))⟩
/-- What came in lies apart from both. -/
theorem BL.farA (h : BL w wr d p S T F G) {A : Option Addr} {m : Nat} (hl : ∀ ad, A = some ad → 0 < m → ad.block < w.heap.size) : Far F A m := fun ad e hm hf => by
  have := hl ad e hm
  have := h.fl _ hf
  omega
theorem BL.farB (h : BL w wr d p S T F G) {A : Option Addr} {m : Nat} (hl : ∀ ad, A = some ad → 0 < m → ad.block < w.heap.size) : Far G A m := fun ad e hm hf => by
  have := hl ad e hm
  have := h.gl _ hf
  omega
end
theorem rb_lt {w : World} {A : Option Addr} {m : Nat} {zs : List Int} (h : RB w A m zs) : ∀ ad, A = some ad → 0 < m → ad.block < w.heap.size := fun ad e hm => by
  subst e; exact (rb_spot h hm).2
theorem ri_lt {w : World} {A : Option Addr} {m : Nat} {zs : List Int} (h : RI w A m zs) : ∀ ad, A = some ad → 0 < m → ad.block < w.heap.size := fun ad e hm => by
  obtain ⟨b, o, e2, hc⟩ := h.cell hm
  rw [e2] at e; cases e
  exact World.block_lt_of_cell? w _ (hc 0 hm)

/-- Both made: where the law stands then. -/
theorem bl_new {w w1 w2 w3 : World} {d n : Nat} {o : Obj} (b1 : Below w.heap.size w w1) (hp : PD (fun k => w1.heap.size ≤ k) w2 d (newS n)) (b2 : Below w1.heap.size w1 w2) (b3 : Below w2.heap.size w2 w3) (hr : RD (fun k => w2.heap.size ≤ k) (w3.alloc o) w3.heap.size (newS n)) :
    BL w (w3.alloc o) d w3.heap.size (newS n) (newS n) (fun k => w1.heap.size ≤ k ∧ k < w2.heap.size) (fun k => w2.heap.size ≤ k ∧ k < (w3.alloc o).heap.size) := by
  have b4 : Below w2.heap.size w2 (w3.alloc o) := b3.alloc b3.size o
  refine ⟨⟨hp.shut.below b4, hr.mono (fun k hk hf => ⟨hf, hk⟩), fun k h1 h2 => by have := h1.2; have := h2.1; omega, fun k h => Nat.lt_of_lt_of_le h.2 b4.size, fun k h => h.2⟩, fun k h => Nat.le_trans b1.size h.1, fun k h => Nat.le_trans (Nat.le_trans b1.size b2.size) h.1, ?_⟩
  exact (b1.trans (b2.mono b1.size)).trans (b4.mono (Nat.le_trans b1.size b2.size))
end Go.Proofs.Ytapjgancaldgaaa
