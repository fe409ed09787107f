/- How a list of records (slices of bytes) is opened. -/
import Derived.Test.YthpbcibjohakkaaJBS
namespace Go.Proofs.Ythpbcibjohakkaa
set_option maxRecDepth 100000
set_option maxRecDepth 100000
open Go.Joins Go.Deep Go.ChangeShapes Go.WideShapes Go.ChangeAt Go.RowKit

/-- One record, as it came in. -/
structure BsD where
  A : Option Addr
  n : Nat
  c : Nat
  z : List Int
instance : Inhabited BsD := ⟨⟨none, 0, 0, []⟩⟩
structure BsIs (w : World) (o : BsD) : Prop where
  b : RB w o.A o.n o.z
  l : o.n ≤ o.c
  m : o.c ≤ 140737488351232
theorem BsIs.below {w w' : World} {o : BsD} (h : BsIs w o) (hb : Below w.heap.size w w') : BsIs w' o := ⟨h.b.below' hb, h.l, h.m⟩
/-- The slice of address A and length n is the records os. -/
structure RBs (w : World) (A : Option Addr) (n : Nat) (os : List BsD) : Prop where
  len : os.length = n
  is : ∀ o ∈ os, BsIs w o
  row : 0 < n → ∃ b o, A = some ⟨b, o, none⟩ ∧ ∀ (j : Nat) (x : BsD), os[j]? = some x → w.cell? ⟨b, o + j, none⟩ = some (.slice x.A x.n x.c)
theorem RBs.at_ {w wr : World} {A : Option Addr} {n : Nat} {os : List BsD} (h : RBs w A n os) (hb : Below w.heap.size w wr) {k : Nat} (hk : k < n) :
    ∃ b o x, A = some ⟨b, o, none⟩ ∧ os[k]? = some x ∧ BsIs wr x ∧ wr.cell? ⟨b, o + k, none⟩ = some (.slice x.A x.n x.c) ∧ ∀ ad, x.A = some ad → 0 < x.n → ad.block < w.heap.size := by
  obtain ⟨b, o, e, hr⟩ := h.row (by omega)
  obtain ⟨x, hx⟩ : ∃ x, os[k]? = some x := ⟨_, List.getElem?_eq_getElem (by rw [h.len]; exact hk)⟩
  have hi := h.is x (List.mem_of_getElem? hx)
  exact ⟨b, o, x, e, hx, hi.below hb, keep_below (hr k x hx) hb, fun ad e2 hp => rb_lt hi.b ad e2 hp⟩

theorem cellsBs : Try.prog.cellsOf 33 = 1 := by kernel_rfl
theorem bytesBs : Try.prog.bytesOf 33 = 24 := by kernel_rfl

/-- Records as they came in. -/
theorem open_recs {H : Type} {enc : TypeId × Value → H} {w : World} {held : Bool} {fuel : Nat} {v : Value} {y : DataW H × List MemPlace} (h : DataW.trod enc Try.prog w 0 (fun _ => true) held fuel 25 [v] = some y) (hl : Light Try.prog 25 y.1) :
    ∃ A len cap os, v = .slice A len cap ∧ RBs w A len os ∧ len ≤ cap ∧ cap ≤ 5864062014806 := by
  rcases open_slice Try.underlying25 h with ⟨hcs, rfl⟩ | ⟨a, len, cap, m, n, D, Pl, hcs, _, hlc, hm, hmm, rfl, hx⟩
  · obtain rfl : v = .slice none 0 0 := by simpa using hcs
    exact ⟨none, 0, 0, [], rfl, ⟨rfl, by simp, fun h => absurd h (by omega)⟩, Nat.le_refl _, by omega⟩
  obtain rfl : v = .slice (some a) len cap := by simpa using hcs
  have hcap : cap * 24 ≤ 140737488351232 := light_sized Try.underlying25 bytesBs hl (.inr ⟨_, _, rfl, by simp only [if_true] at hmm; subst hmm; simp; omega⟩)
  simp only [if_true] at hmm
  subst hmm
  have key : ∀ i, i < len → ∃ o : BsD, BsIs w o ∧ w.cell? (a.add i) = some (.slice o.A o.n o.c) := by
    intro i hi
    obtain ⟨cs', h1, h2⟩ := hx i (by omega)
    rw [cellsBs] at h1
    obtain ⟨hlen, hcell⟩ := cells_mapM h1
    have hle : Light Try.prog 33 (D i) := light_elem Try.underlying25 hl (List.mem_map.2 ⟨i, by simp [hi], rfl⟩)
    match cs', hlen with
    | [g0], _ =>
      obtain ⟨A1, n1, c1, z1, rfl, hr1, hn1, _, hd1⟩ := open_bytes Try.underlying33 Try.underlying5 cellsU8 h2
      have m1 := light_sized Try.underlying33 bytesU8 hle hd1
      have := hcell 0 (by omega)
      rw [Nat.mul_one] at this
      exact ⟨⟨A1, n1, c1, z1⟩, ⟨hr1, hn1, by simpa using m1⟩, this⟩
  obtain ⟨f, hf⟩ := choose_lt key
  refine ⟨some a, len, m, (List.range len).map f, rfl, ⟨by simp, fun o ho => ?_, fun hn => ?_⟩, hlc, by omega⟩
  · obtain ⟨i, hi, rfl⟩ := List.mem_map.1 ho
    exact (hf i (by simpa using hi)).1
  · have h0 := (hf 0 hn).2
    rw [show a.add 0 = a from rfl] at h0
    obtain ⟨b, o, rfl⟩ := spot_add (w := w) (spot_none h0)
    refine ⟨b, o, rfl, fun j x hx => ?_⟩
    have hj : j < len := by have := (List.getElem?_eq_some_iff.1 hx).1; simpa using this
    have hxe : f j = x := by simpa [hj] using hx
    have := (hf j hj).2
    rw [Addr.add_mid, hxe] at this
    exact this
end Go.Proofs.Ythpbcibjohakkaa
