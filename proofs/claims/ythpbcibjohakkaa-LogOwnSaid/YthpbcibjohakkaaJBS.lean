import Derived.Test.YthpbcibjohakkaaJAH
import Derived.Test.YthpbcibjohakkaaLBegun
/- How scripts of operations on logs, and lists of records, are opened. -/
namespace Go.Proofs.Ythpbcibjohakkaa
set_option maxRecDepth 100000
set_option maxRecDepth 100000
open Go.Joins Go.Deep Go.ChangeShapes Go.WideShapes Go.ChangeAt Go.RowKit

theorem cellsOp3 : Try.prog.cellsOf 36 = 4 := by kernel_rfl
theorem bytesOp3 : Try.prog.bytesOf 36 = 64 := by kernel_rfl

/-- A script as it came in. -/
theorem open_script3 {H : Type} {enc : TypeId × Value → H} {w : World} {held : Bool} {fuel : Nat} {v : Value} {y : DataW H × List MemPlace} (h : DataW.trod enc Try.prog w 0 (fun _ => true) held fuel 22 [v] = some y) (hl : Light Try.prog 22 y.1) :
    ∃ A len cap os, v = .slice A len cap ∧ RO w A len os ∧ len ≤ cap ∧ cap ≤ 2199023255488 := by
  rcases open_slice Try.underlying22 h with ⟨hcs, rfl⟩ | ⟨a, len, cap, m, n, D, Pl, hcs, _, hlc, hm, hmm, rfl, hx⟩
  · obtain rfl : v = .slice none 0 0 := by simpa using hcs
    exact ⟨none, 0, 0, [], rfl, ⟨rfl, by simp, fun h => absurd h (by omega)⟩, Nat.le_refl _, by omega⟩
  obtain rfl : v = .slice (some a) len cap := by simpa using hcs
  have hcap : cap * 64 ≤ 140737488351232 := light_sized Try.underlying22 bytesOp3 hl (.inr ⟨_, _, rfl, by simp only [if_true] at hmm; subst hmm; simp; omega⟩)
  simp only [if_true] at hmm
  subst hmm
  have key : ∀ i, i < len → ∃ o : OpD, OpIs w o ∧ ∀ j, j < 4 → w.cell? ((a.add (i * 4)).add j) = some (o.cells.getD j undef) := by
    intro i hi
    obtain ⟨cs', h1, h2⟩ := hx i (by omega)
    rw [cellsOp3] at h1
    obtain ⟨hlen, hcell⟩ := cells_mapM h1
    obtain ⟨ys, k, _, hyl, hD, hf⟩ := open_laid Try.underlying36 (by kernel_rfl) (by kernel_rfl) h2
    have hle : Light Try.prog 36 (D i) := light_elem Try.underlying22 hl (List.mem_map.2 ⟨i, by simp [hi], rfl⟩)
    simp only at hD
    rw [hD] at hle
    match cs', hlen, ys, hyl with
    | [g0, g1, g2, g3], _, [y0, y1, y2, y3], _ =>
      have t0 : DataW.trod enc Try.prog w 0 (fun _ => true) held k 3 [g0] = some y0 := hf 0 _ rfl
      have t1 : DataW.trod enc Try.prog w 0 (fun _ => true) held k 3 [g1] = some y1 := hf 1 _ rfl
      have t2 : DataW.trod enc Try.prog w 0 (fun _ => true) held k 33 [g2] = some y2 := hf 2 _ rfl
      have t3 : DataW.trod enc Try.prog w 0 (fun _ => true) held k 34 [g3] = some y3 := hf 3 _ rfl
      obtain ⟨a0, rfl, w0⟩ := open_num Try.underlying3 t0
      obtain ⟨a1, rfl, w1⟩ := open_num Try.underlying3 t1
      obtain ⟨A1, n1, c1, z1, rfl, hr1, hn1, _, hd1⟩ := open_bytes Try.underlying33 Try.underlying5 cellsU8 t2
      obtain ⟨A2, n2, c2, z2, rfl, hr2, hn2, _, hd2⟩ := open_intsR Try.underlying34 Try.underlying3 cellsInt t3
      have l1 : Light Try.prog 33 y2.1 := light_field Try.underlying36 hle (j := 2) rfl rfl
      have l2 : Light Try.prog 34 y3.1 := light_field Try.underlying36 hle (j := 3) rfl rfl
      have m1 := light_sized Try.underlying33 bytesU8 l1 hd1
      have m2 := light_sized Try.underlying34 bytesInt l2 hd2
      exact ⟨⟨a0, a1, A1, n1, c1, z1, A2, n2, c2, z2⟩, ⟨wf_i64 w0, wf_i64 w1, hr1, hn1, by simpa using m1, hr2, hn2, by simp only; omega⟩, fun j hj => hcell j hj⟩
  obtain ⟨f, hf⟩ := choose_lt key
  refine ⟨some a, len, m, (List.range len).map f, rfl, ⟨by simp, fun o ho => ?_, fun hn => ?_⟩, hlc, by omega⟩
  · obtain ⟨i, hi, rfl⟩ := List.mem_map.1 ho
    exact (hf i (by simpa using hi)).1
  · have h0 := (hf 0 hn).2 0 (by omega)
    rw [show (a.add (0 * 4)).add 0 = a from rfl] at h0
    obtain ⟨b, o, rfl⟩ := spot_add (w := w) (spot_none h0)
    refine ⟨b, o, rfl, fun j x hx => ?_⟩
    have hj : j < len := by have := (List.getElem?_eq_some_iff.1 hx).1; simpa using this
    have hxe : f j = x := by simpa [hj] using hx
    intro k u hu
    have hk : k < 4 := (List.getElem?_eq_some_iff.1 hu).1
    have := (hf j hj).2 k hk
    rw [Addr.add_mid, Addr.add_mid, hxe] at this
    rw [this, List.getD_eq_getElem?_getD, hu]
    rfl
end Go.Proofs.Ythpbcibjohakkaa

/- How a law's world begins: what begun told, stored in a block of the law's own. -/
namespace Go.Proofs.Ythpbcibjohakkaa
set_option maxRecDepth 100000
set_option maxRecDepth 100000
open Go.RowKit

theorem RO.at3 {w wr : World} {A : Option Addr} {n : Nat} {os : List OpD} (h : RO w A n os) (hb : Below w.heap.size w wr) {k : Nat} (hk : k < n) :
    ∃ b o x, A = some ⟨b, o, none⟩ ∧ os[k]? = some x ∧ OpIs wr x ∧ wr.rangeAt b (o + k * 4) [.int .i64 x.do_, .int .i64 x.n, .slice x.A1 x.n1 x.c1, .slice x.A2 x.n2 x.c2] := by
  obtain ⟨b, o, e, hr⟩ := h.row (by omega)
  obtain ⟨x, hx⟩ : ∃ x, os[k]? = some x := ⟨_, List.getElem?_eq_getElem (by rw [h.len]; exact hk)⟩
  exact ⟨b, o, x, e, hx, (h.is x (List.mem_of_getElem? hx)).below hb, rangeAt_below (hr k x hx) hb⟩
theorem RO.at3far {w : World} {A : Option Addr} {n : Nat} {os : List OpD} (h : RO w A n os) {k : Nat} {x : OpD} (hx : os[k]? = some x) : (∀ ad, x.A1 = some ad → 0 < x.n1 → ad.block < w.heap.size) ∧ (∀ ad, x.A2 = some ad → 0 < x.n2 → ad.block < w.heap.size) := by
  have hi := h.is x (List.mem_of_getElem? hx)
  refine ⟨fun ad e hp => rb_lt hi.b1 ad e hp, fun ad e hp => ?_⟩
  obtain ⟨b, o, e2, hc⟩ := hi.b2.cell hp
  rw [e2] at e
  cases e
  exact World.block_lt_of_cell? w _ (hc 0 hp)

/-- The law's world, made of what begun told. -/
theorem lw_start {base w1 w9 : World} {u d L : Nat} {S : St} {F : Nat → Prop} (hb1 : Below base.heap.size base w1) (hU : Up F w1 d L S 1 []) (hF : ∀ j, F j → base.heap.size ≤ j ∧ j < w1.heap.size) (hL : base.heap.size ≤ L) (hu : w1.heap.size ≤ u)
    (h9 : Below w1.heap.size w1 w9) (blk : w9.heap[u]? = some (.cells (LwC d L (areaSize S.last.length) (.slice none 0 0) (.slice none 0 0) false false) 29 (0, 0))) : Lw base w9 u d S 1 := by
  have hl := hU.llt
  have hs := h9.size
  have hbs := hb1.size
  exact .inl ⟨[], L, F, fun _ => False, .slice none 0 0, .slice none 0 0, [],
    ⟨blk, fun j hj => ⟨(hF j hj).1, by have := (hF j hj).2; omega, by have := (hF j hj).2; omega⟩, fun j hj => hj.elim, by omega, ⟨hL, by omega⟩, hb1.trans (h9.mono hbs)⟩, hU.below h9, Recs.nil _ _ _⟩
theorem wr_cap {k : Nat} (h : k ≤ 2199023255488) : (40000 : Int) + 16385 * (k : Int) ≤ 1152921504606846976 := by omega
end Go.Proofs.Ythpbcibjohakkaa
