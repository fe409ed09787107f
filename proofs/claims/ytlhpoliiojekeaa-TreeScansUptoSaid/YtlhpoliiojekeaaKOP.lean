import Derived.Test.YtlhpoliiojekeaaOpen
import Derived.Test.YtlhpoliiojekeaaChanges
import Derived.Deep.Slices
import Derived.Test.YtlhpoliiojekeaaFilled
import Derived.SliceStrings
import Derived.Test.YtlhpoliiojekeaaBulk
/- Arguments of laws: scripts of operations on trees. -/
namespace Go.Proofs.Ytlhpoliiojekeaa
set_option maxRecDepth 100000
open Go.Joins Go.Deep Go.ChangeShapes Go.WideShapes Go.ChangeAt Go.RowKit

def OpT.cells (o : OpT) : List Value := [.int .i64 o.kind, .bool o.other, .string o.k, .string o.k2, .int .i64 o.v, .int .i64 o.i, .bool o.beyond]
structure OpTIs (o : OpT) : Prop where
  rk : -9223372036854775808 ≤ o.kind ∧ o.kind ≤ 9223372036854775807
  rv : -9223372036854775808 ≤ o.v ∧ o.v ≤ 9223372036854775807
  ri : -9223372036854775808 ≤ o.i ∧ o.i ≤ 9223372036854775807
/-- The slice of address A and length n is the script os. -/
structure RT (w : World) (A : Option Addr) (n : Nat) (os : List OpT) : Prop where
  len : os.length = n
  is : ∀ o ∈ os, OpTIs o
  row : 0 < n → ∃ b o, A = some ⟨b, o, none⟩ ∧ ∀ (j : Nat) (x : OpT), os[j]? = some x → w.rangeAt b (o + j * 7) x.cells
theorem rangeAt_belowT {w w' : World} {b o : Nat} {cs : List Value} (h : w.rangeAt b o cs) (hb : Below w.heap.size w w') : w'.rangeAt b o cs := fun j v hv => keep_below (h j v hv) hb
theorem RT.below {w w' : World} {A : Option Addr} {n : Nat} {os : List OpT} (h : RT w A n os) (hb : Below w.heap.size w w') : RT w' A n os :=
  ⟨h.len, h.is, fun hn => by
    obtain ⟨b, o, e, hr⟩ := h.row hn
    exact ⟨b, o, e, fun j x hx => rangeAt_belowT (hr j x hx) hb⟩⟩
theorem RT.at_ {w : World} {A : Option Addr} {n : Nat} {os : List OpT} (h : RT w A n os) {j : Nat} {x : OpT} (hx : os[j]? = some x) : ∃ b o, A = some ⟨b, o, none⟩ ∧ w.cell? ⟨b, o + j * 7, none⟩ = some (.int .i64 x.kind) ∧ w.cell? ⟨b, o + j * 7 + 1, none⟩ = some (.bool x.other) ∧ w.cell? ⟨b, o + j * 7 + 2, none⟩ = some (.string x.k) ∧ w.cell? ⟨b, o + j * 7 + 3, none⟩ = some (.string x.k2) ∧ w.cell? ⟨b, o + j * 7 + 4, none⟩ = some (.int .i64 x.v) ∧ w.cell? ⟨b, o + j * 7 + 5, none⟩ = some (.int .i64 x.i) ∧ w.cell? ⟨b, o + j * 7 + 6, none⟩ = some (.bool x.beyond) := by
  obtain ⟨b, o, e, hr⟩ := h.row (by have := (List.getElem?_eq_some_iff.1 hx).1; have := h.len; omega)
  have q := hr j x hx
  exact ⟨b, o, e, q 0 _ rfl, q 1 _ rfl, q 2 _ rfl, q 3 _ rfl, q 4 _ rfl, q 5 _ rfl, q 6 _ rfl⟩
section
variable {H : Type} {enc : TypeId × Value → H} {P : Program} {w : World} {held : Bool}
theorem spot_noneT {w : World} {ad : Addr} {v : Value} (hc : w.cell? ad = some v) : ad.spot = none := by
  unfold World.cell? at hc
  split at hc
  · split at hc
    · cases hc
    · rename_i hh; simpa using hh
  · cases hc
theorem spot_addT {ad : Addr} (h : ad.spot = none) : ∃ b o, ad = ⟨b, o, none⟩ := by
  obtain ⟨b, o, s⟩ := ad
  simp only at h
  subst h
  exact ⟨b, o, rfl⟩
theorem open_laidT {t : TypeId} {fs : Array Field} {m : Nat} {cs : List Value} {y : DataW H × List MemPlace} (hs : P.underlying t = some (.struct fs)) (hone : oneCellFields P fs = true) (hC : P.cellsOf t = fs.size)
    (h : DataW.trod enc P w 0 (fun _ => true) held m t cs = some y) :
    ∃ (ys : List (DataW H × List MemPlace)) (n : Nat), cs.length = fs.size ∧ ys.length = fs.size ∧ y.1 = .agg (ys.map (·.1)) ∧
      ∀ (j : Nat) (f : Field), fs[j]? = some f → DataW.trod enc P w 0 (fun _ => true) held n f.type [cs.getD j undef] = some (ys.getD j (.nil, [])) := by
  obtain ⟨xs, n, _, hx, hcl, hlen, hg⟩ := DataW.trod_struct hs h
  have hcl' : cs.length = fs.size := hcl.trans hC
  refine ⟨xs, n, hcl', hlen, by rw [hx], fun j f hj => ?_⟩
  obtain ⟨ho, hk⟩ := hone_of hone j f hj
  have hjl : j < fs.size := (Array.getElem?_eq_some_iff.1 hj).1
  have h1 := hg j f hj
  rw [ho, hk] at h1
  have e1 : (cs.drop j).take 1 = [cs.getD j undef] := by
    rw [List.drop_eq_getElem_cons (by omega), List.take_succ_cons, List.take_zero]
    simp [List.getD_eq_getElem?_getD, List.getElem?_eq_getElem (show j < cs.length by omega)]
  rw [e1] at h1
  rw [h1, List.getD_eq_getElem?_getD, List.getElem?_eq_getElem (show j < xs.length by omega)]
  rfl
end
theorem cellsOpT : Try.prog.cellsOf 33 = 7 := by kernel_rfl
theorem cells_mapMT {w : World} {a : Addr} {n : Nat} {cs : List Value} (h : w.cells? 0 a n = some cs) : cs.length = n ∧ ∀ j, j < n → w.cell? (a.add j) = some (cs.getD j undef) := by
  unfold World.cells? at h
  rw [if_pos (Nat.zero_le _)] at h
  have hlen : cs.length = n := by simpa using Go.mapM_some_length h
  refine ⟨hlen, fun j hj => ?_⟩
  have := Go.mapM_some_get h j j (by simp [hj])
  rw [this, List.getD_eq_getElem?_getD, List.getElem?_eq_getElem (by omega)]
  rfl
instance : Inhabited OpT := ⟨⟨0, false, ⟨#[]⟩, ⟨#[]⟩, 0, 0, false⟩⟩
/-- A script as it came in. -/
theorem open_opsT {H : Type} {enc : TypeId × Value → H} {w : World} {held : Bool} {fuel : Nat} {v : Value} {y : DataW H × List MemPlace} (h : DataW.trod enc Try.prog w 0 (fun _ => true) held fuel 22 [v] = some y) :
    ∃ A len cap os, v = .slice A len cap ∧ RT w A len os ∧ len ≤ cap ∧ cap ≤ maxLen ∧ ((y.1 = .nil ∧ cap = 0) ∨ ∃ elems rest, y.1 = .slice elems rest ∧ elems.length + rest.length = cap) := by
  rcases open_slice Try.underlying22 h with ⟨hcs, rfl⟩ | ⟨a, len, cap, m, n, D, Pl, hcs, _, hlc, hm, hmm, rfl, hx⟩
  · obtain rfl : v = .slice none 0 0 := by simpa using hcs
    exact ⟨none, 0, 0, [], rfl, ⟨rfl, by simp, fun h => absurd h (by omega)⟩, Nat.le_refl _, by simp [maxLen], .inl ⟨rfl, rfl⟩⟩
  obtain rfl : v = .slice (some a) len cap := by simpa using hcs
  simp only [if_true] at hmm
  subst hmm
  have key : ∀ i, i < len → ∃ o : OpT, OpTIs o ∧ ∀ j, j < 7 → w.cell? ((a.add (i * 7)).add j) = some (o.cells.getD j undef) := by
    intro i hi
    obtain ⟨cs', h1, h2⟩ := hx i (by omega)
    rw [cellsOpT] at h1
    obtain ⟨hlen, hcell⟩ := cells_mapMT h1
    obtain ⟨ys, k, _, hyl, hD, hf⟩ := open_laidT Try.underlying33 (by kernel_rfl) (by kernel_rfl) h2
    match cs', hlen, ys, hyl with
    | [g0, g1, g2, g3, g4, g5, g6], _, [y0, y1, y2, y3, y4, y5, y6], _ =>
      have t0 : DataW.trod enc Try.prog w 0 (fun _ => true) held k 3 [g0] = some y0 := hf 0 _ rfl
      have t1 : DataW.trod enc Try.prog w 0 (fun _ => true) held k 4 [g1] = some y1 := hf 1 _ rfl
      have t2 : DataW.trod enc Try.prog w 0 (fun _ => true) held k 9 [g2] = some y2 := hf 2 _ rfl
      have t3 : DataW.trod enc Try.prog w 0 (fun _ => true) held k 9 [g3] = some y3 := hf 3 _ rfl
      have t4 : DataW.trod enc Try.prog w 0 (fun _ => true) held k 2 [g4] = some y4 := hf 4 _ rfl
      have t5 : DataW.trod enc Try.prog w 0 (fun _ => true) held k 3 [g5] = some y5 := hf 5 _ rfl
      have t6 : DataW.trod enc Try.prog w 0 (fun _ => true) held k 4 [g6] = some y6 := hf 6 _ rfl
      obtain ⟨a0, rfl, w0⟩ := open_num Try.underlying3 t0
      obtain ⟨a1, rfl⟩ := open_bit Try.underlying4 t1
      obtain ⟨a2, rfl, -⟩ := open_str Try.underlying9 t2
      obtain ⟨a3, rfl, -⟩ := open_str Try.underlying9 t3
      obtain ⟨a4, rfl, w4⟩ := open_num Try.underlying2 t4
      obtain ⟨a5, rfl, w5⟩ := open_num Try.underlying3 t5
      obtain ⟨a6, rfl⟩ := open_bit Try.underlying4 t6
      exact ⟨⟨a0, a1, a2, a3, a4, a5, a6⟩, ⟨wf_i64 w0, wf_i64 w4, wf_i64 w5⟩, fun j hj => hcell j hj⟩
  obtain ⟨f, hf⟩ := choose_lt key
  refine ⟨some a, len, m, (List.range len).map f, rfl, ⟨by simp, fun o ho => ?_, fun hn => ?_⟩, hlc, hm, .inr ⟨_, _, rfl, by simp; omega⟩⟩
  · obtain ⟨i, hi, rfl⟩ := List.mem_map.1 ho
    exact (hf i (by simpa using hi)).1
  · have h0 := (hf 0 hn).2 0 (by omega)
    rw [show (a.add (0 * 7)).add 0 = a from rfl] at h0
    obtain ⟨b, o, rfl⟩ := spot_addT (spot_noneT h0)
    refine ⟨b, o, rfl, fun j x hx => ?_⟩
    have hj : j < len := by have := (List.getElem?_eq_some_iff.1 hx).1; simpa using this
    have hxe : f j = x := by simpa [hj] using hx
    intro k u hu
    have hk : k < 7 := (List.getElem?_eq_some_iff.1 hu).1
    have := (hf j hj).2 k hk
    rw [Addr.add_mid, Addr.add_mid, hxe] at this
    rw [this, List.getD_eq_getElem?_getD, hu]
    rfl
end Go.Proofs.Ytlhpoliiojekeaa

/- Arguments of laws: lists of texts. -/
namespace Go.Proofs.Ytlhpoliiojekeaa
open Go.Joins Go.Deep Go.ChangeShapes Go.WideShapes Go.ChangeAt Go.RowKit
section
variable {H : Type} {enc : TypeId × Value → H} {P : Program} {w : World} {held : Bool}
theorem open_texts {t e : TypeId} {fuel : Nat} {v : Value} {y : DataW H × List MemPlace} (ht : P.underlying t = some (.slice e)) (he : P.underlying e = some .string) (hc : P.cellsOf e = 1)
    (h : DataW.trod enc P w 0 (fun _ => true) held fuel t [v] = some y) :
    ∃ A len cap ks, v = .slice A len cap ∧ SA w A len ks ∧ len ≤ cap ∧ cap ≤ maxLen ∧
      ((y.1 = .nil ∧ cap = 0) ∨ ∃ elems rest, y.1 = .slice elems rest ∧ elems.length + rest.length = cap) := by
  rcases open_strings ht he hc h with ⟨hcs, hy⟩ | ⟨a, l, c, ss, hcs, _, hl, hm, hs, hy, hcell, _⟩
  · obtain rfl : v = .slice none 0 0 := by simpa using hcs
    exact ⟨none, 0, 0, [], rfl, ⟨rfl, fun h => absurd h (by omega)⟩, Nat.le_refl _, by simp [maxLen], .inl ⟨by rw [hy], rfl⟩⟩
  · obtain rfl : v = .slice (some a) l c := by simpa using hcs
    have hs' : ss.length = c := by simpa using hs
    refine ⟨some a, l, c, ss.take l, rfl, ⟨by simp; omega, fun _ => ⟨a, rfl, fun j k hk => ?_⟩⟩, hl, hm, .inr ⟨_, _, by rw [hy], ?_⟩⟩
    · have hj : j < l := by
        have := (List.getElem?_eq_some_iff.1 hk).1
        rw [List.length_take] at this; omega
      rw [hcell j (by omega), List.getD_eq_getElem?_getD]
      rw [List.getElem?_take_of_lt hj] at hk
      rw [hk]; rfl
    · simp [strs]; omega
end
end Go.Proofs.Ytlhpoliiojekeaa

/- Arguments of laws: lists of texts, each within the bound. -/
namespace Go.Proofs.Ytlhpoliiojekeaa
open Go.Joins Go.Deep Go.ChangeShapes Go.WideShapes Go.ChangeAt Go.RowKit
section
variable {H : Type} {enc : TypeId × Value → H} {P : Program} {w : World} {held : Bool}
theorem bulk_each {H : Type} {B : Nat} (ss : List ByteArray) (h : Rows.uptoBulkAll (strs ss : List (DataW H)) ≤ B) : ∀ k ∈ ss, k.size ≤ B := fun k hk => by
  obtain ⟨j, hj⟩ := List.mem_iff_getElem?.1 hk
  have h1 : (strs ss : List (DataW H))[j]? = some (.lit (.string k.data.toList)) := by simp [strs, hj]
  have h2 := Nat.le_trans (bulk_part h1) h
  have := bulk_string h2
  simpa using this
theorem open_textsB {t e : TypeId} {fuel B : Nat} {v : Value} {y : DataW H × List MemPlace} (ht : P.underlying t = some (.slice e)) (he : P.underlying e = some .string) (hc : P.cellsOf e = 1)
    (h : DataW.trod enc P w 0 (fun _ => true) held fuel t [v] = some y) (hb : Rows.uptoBulk y.1 ≤ B) :
    ∃ A len cap ks, v = .slice A len cap ∧ SA w A len ks ∧ (∀ k ∈ ks, k.size ≤ B) ∧ len ≤ cap ∧ cap ≤ maxLen ∧
      ((y.1 = .nil ∧ cap = 0) ∨ ∃ elems rest, y.1 = .slice elems rest ∧ elems.length + rest.length = cap) := by
  rcases open_strings ht he hc h with ⟨hcs, hy⟩ | ⟨a, l, c, ss, hcs, _, hl, hm, hs, hy, hcell, _⟩
  · obtain rfl : v = .slice none 0 0 := by simpa using hcs
    exact ⟨none, 0, 0, [], rfl, ⟨rfl, fun h => absurd h (by omega)⟩, fun k hk => (by cases hk), Nat.le_refl _, by simp [maxLen], .inl ⟨by rw [hy], rfl⟩⟩
  · obtain rfl : v = .slice (some a) l c := by simpa using hcs
    have hs' : ss.length = c := by simpa using hs
    refine ⟨some a, l, c, ss.take l, rfl, ⟨by simp; omega, fun _ => ⟨a, rfl, fun j k hk => ?_⟩⟩, ?_, hl, hm, .inr ⟨_, _, by rw [hy], ?_⟩⟩
    · have hj : j < l := by
        have := (List.getElem?_eq_some_iff.1 hk).1
        rw [List.length_take] at this; omega
      rw [hcell j (by omega), List.getD_eq_getElem?_getD]
      rw [List.getElem?_take_of_lt hj] at hk
      rw [hk]; rfl
    · rw [hy] at hb
      simp only [Rows.uptoBulk] at hb
      exact bulk_each (H := H) _ (by omega)
    · simp [strs]; omega
end
end Go.Proofs.Ytlhpoliiojekeaa
