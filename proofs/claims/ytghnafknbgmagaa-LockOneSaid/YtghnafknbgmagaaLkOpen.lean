/- Layer 8: arguments of laws: locks, scripts of operations on managers. -/
import Derived.Test.YtghnafknbgmagaaOpen
import Derived.Test.YtghnafknbgmagaaLkP
import Derived.Deep.Slices
namespace Go.Proofs.Ytghnafknbgmagaa
set_option maxRecDepth 100000
set_option maxRecDepth 100000
open Go.Joins Go.Deep Go.ChangeShapes Go.WideShapes Go.ChangeAt Go.RowKit

/-- An operation of a script. -/
structure OpK where
  kind : Int
  tx : Int
  snap : Int
  last : Int
  at_ : Lk
  hi : ByteArray
def OpK.cells (o : OpK) : List Value := [.int .i64 o.kind, .int .i64 o.tx, .int .i64 o.snap, .int .i64 o.last, .string o.at_.1, .string o.at_.2, .string o.hi]
structure OpKIs (o : OpK) : Prop where
  rk : -9223372036854775808 ≤ o.kind ∧ o.kind ≤ 9223372036854775807
  rt : -9223372036854775808 ≤ o.tx ∧ o.tx ≤ 9223372036854775807
  rs : -9223372036854775808 ≤ o.snap ∧ o.snap ≤ 9223372036854775807
  rl : -9223372036854775808 ≤ o.last ∧ o.last ≤ 9223372036854775807
  sz : o.at_.1.size ≤ maxLen ∧ o.at_.2.size ≤ maxLen
/-- The slice of address A and length n is the script os. -/
structure RK (w : World) (A : Option Addr) (n : Nat) (os : List OpK) : Prop where
  len : os.length = n
  is : ∀ o ∈ os, OpKIs o
  row : 0 < n → ∃ b o, A = some ⟨b, o, none⟩ ∧ ∀ (j : Nat) (x : OpK), os[j]? = some x → w.rangeAt b (o + j * 7) x.cells
theorem rangeAt_belowK {w w' : World} {b o : Nat} {cs : List Value} (h : w.rangeAt b o cs) (hb : Below w.heap.size w w') : w'.rangeAt b o cs := fun j v hv => keep_below (h j v hv) hb
theorem RK.below {w w' : World} {A : Option Addr} {n : Nat} {os : List OpK} (h : RK w A n os) (hb : Below w.heap.size w w') : RK w' A n os :=
  ⟨h.len, h.is, fun hn => by
    obtain ⟨b, o, e, hr⟩ := h.row hn
    exact ⟨b, o, e, fun j x hx => rangeAt_belowK (hr j x hx) hb⟩⟩
theorem RK.at_ {w : World} {A : Option Addr} {n : Nat} {os : List OpK} (h : RK w A n os) {j : Nat} {x : OpK} (hx : os[j]? = some x) : ∃ b o, A = some ⟨b, o, none⟩ ∧ w.cell? ⟨b, o + j * 7, none⟩ = some (.int .i64 x.kind) ∧ w.cell? ⟨b, o + j * 7 + 1, none⟩ = some (.int .i64 x.tx) ∧ w.cell? ⟨b, o + j * 7 + 2, none⟩ = some (.int .i64 x.snap) ∧ w.cell? ⟨b, o + j * 7 + 3, none⟩ = some (.int .i64 x.last) ∧ w.cell? ⟨b, o + j * 7 + 4, none⟩ = some (.string x.at_.1) ∧ w.cell? ⟨b, o + j * 7 + 5, none⟩ = some (.string x.at_.2) ∧ w.cell? ⟨b, o + j * 7 + 6, none⟩ = some (.string x.hi) := by
  obtain ⟨b, o, e, hr⟩ := h.row (by have := (List.getElem?_eq_some_iff.1 hx).1; have := h.len; omega)
  have q := hr j x hx
  exact ⟨b, o, e, q 0 _ rfl, q 1 _ rfl, q 2 _ rfl, q 3 _ rfl, q 4 _ rfl, q 5 _ rfl, q 6 _ rfl⟩
section
variable {H : Type} {enc : TypeId × Value → H} {P : Program} {w : World} {held : Bool}
theorem open_strK {t : TypeId} {fuel : Nat} {v : Value} {y : DataW H × List MemPlace} (ht : P.underlying t = some .string)
    (h : DataW.trod enc P w 0 (fun _ => true) held fuel t [v] = some y) : ∃ s : ByteArray, v = .string s ∧ s.size ≤ maxLen := by
  obtain ⟨s, h1, h2, h3⟩ := DataW.trod_string ht h
  exact ⟨s, by simpa using h1, h3⟩
theorem spot_noneK {w : World} {ad : Addr} {v : Value} (hc : w.cell? ad = some v) : ad.spot = none := by
  unfold World.cell? at hc
  split at hc
  · split at hc
    · cases hc
    · rename_i hh; simpa using hh
  · cases hc
theorem spot_addK {ad : Addr} (h : ad.spot = none) : ∃ b o, ad = ⟨b, o, none⟩ := by
  obtain ⟨b, o, s⟩ := ad
  simp only at h
  subst h
  exact ⟨b, o, rfl⟩
theorem open_laidK {t : TypeId} {fs : Array Field} {m : Nat} {cs : List Value} {y : DataW H × List MemPlace} (hs : P.underlying t = some (.struct fs)) (hone : oneCellFields P fs = true) (hC : P.cellsOf t = fs.size)
    (h : DataW.trod enc P w 0 (fun _ => true) held m t cs = some y) :
    ∃ (ys : List (DataW H × List MemPlace)) (n : Nat), cs.length = fs.size ∧ ys.length = fs.size ∧ y.1 = .agg (ys.map (·.1)) ∧
      ∀ (j : Nat) (f : Field), fs[j]? = some f → DataW.trod enc P w 0 (fun _ => true) held n f.type [cs.getD j undef] = some (ys.getD j (.nil, [])) := by
  obtain ⟨xs, n, _, hx, hcl, hlen, hg⟩ := DataW.trod_struct hs h
  have hcl' : cs.length = fs.size := hcl.trans hC
  refine ⟨xs, n, hcl', hlen, by rw [hx], fun j f hj => ?_⟩
  obtain ⟨ho, hk⟩ := hone_of hone j f hj
  have hjl : j < fs.size := (Array.getElem?_eq_some_iff.1 hj).1
  have h1 := hg j f hj
  rw [ho, hk] at h1
  have e1 : (cs.drop j).take 1 = [cs.getD j undef] := by
    rw [List.drop_eq_getElem_cons (by omega), List.take_succ_cons, List.take_zero]
    simp [List.getD_eq_getElem?_getD, List.getElem?_eq_getElem (show j < cs.length by omega)]
  rw [e1] at h1
  rw [h1, List.getD_eq_getElem?_getD, List.getElem?_eq_getElem (show j < xs.length by omega)]
  rfl
theorem open_wideK {t : TypeId} {fs : Array Field} {m : Nat} {cs : List Value} {y : DataW H × List MemPlace} (hs : P.underlying t = some (.struct fs))
    (h : DataW.trod enc P w 0 (fun _ => true) held m t cs = some y) :
    ∃ (ys : List (DataW H × List MemPlace)) (n : Nat), cs.length = P.cellsOf t ∧ ys.length = fs.size ∧ y.1 = .agg (ys.map (·.1)) ∧
      ∀ (j : Nat) (f : Field), fs[j]? = some f → DataW.trod enc P w 0 (fun _ => true) held n f.type ((cs.drop f.offset).take (P.cellsOf f.type)) = some (ys.getD j (.nil, [])) := by
  obtain ⟨xs, n, _, hx, hcl, hlen, hg⟩ := DataW.trod_struct hs h
  refine ⟨xs, n, hcl, hlen, by rw [hx], fun j f hj => ?_⟩
  have hjl : j < fs.size := (Array.getElem?_eq_some_iff.1 hj).1
  have h1 := hg j f hj
  rw [h1, List.getD_eq_getElem?_getD, List.getElem?_eq_getElem (show j < xs.length by omega)]
  rfl
end
theorem cellsOpK : Try.prog.cellsOf 36 = 7 := by kernel_rfl
theorem cells_mapMK {w : World} {a : Addr} {n : Nat} {cs : List Value} (h : w.cells? 0 a n = some cs) : cs.length = n ∧ ∀ j, j < n → w.cell? (a.add j) = some (cs.getD j undef) := by
  unfold World.cells? at h
  rw [if_pos (Nat.zero_le _)] at h
  have hlen : cs.length = n := by simpa using Go.mapM_some_length h
  refine ⟨hlen, fun j hj => ?_⟩
  have := Go.mapM_some_get h j j (by simp [hj])
  rw [this, List.getD_eq_getElem?_getD, List.getElem?_eq_getElem (by omega)]
  rfl
instance : Inhabited OpK := ⟨⟨0, 0, 0, 0, (⟨#[]⟩, ⟨#[]⟩), ⟨#[]⟩⟩⟩
/-- An operation as it came in. -/
theorem open_opK {H : Type} {enc : TypeId × Value → H} {w : World} {held : Bool} {fuel : Nat} {cs : List Value} {y : DataW H × List MemPlace} (h : DataW.trod enc Try.prog w 0 (fun _ => true) held fuel 36 cs = some y) :
    ∃ o : OpK, OpKIs o ∧ cs = o.cells := by
  obtain ⟨ys, k, hlen, hyl, hD, hf⟩ := open_wideK Try.underlying36 h
  rw [cellsOpK] at hlen
  match cs, hlen, ys, hyl with
  | [g0, g1, g2, g3, g4, g5, g6], _, [y0, y1, y2, y3, y4, y5], _ =>
    have t0 : DataW.trod enc Try.prog w 0 (fun _ => true) held k 3 [g0] = some y0 := by
      have : DataW.trod enc Try.prog w 0 (fun _ => true) held k 3 (([g0, g1, g2, g3, g4, g5, g6].drop 0).take (Try.prog.cellsOf 3)) = some y0 := hf 0 _ rfl
      rw [show Try.prog.cellsOf 3 = 1 by kernel_rfl] at this
      exact this
    have t1 : DataW.trod enc Try.prog w 0 (fun _ => true) held k 2 [g1] = some y1 := by
      have : DataW.trod enc Try.prog w 0 (fun _ => true) held k 2 (([g0, g1, g2, g3, g4, g5, g6].drop 1).take (Try.prog.cellsOf 2)) = some y1 := hf 1 _ rfl
      rw [show Try.prog.cellsOf 2 = 1 by kernel_rfl] at this
      exact this
    have t2 : DataW.trod enc Try.prog w 0 (fun _ => true) held k 2 [g2] = some y2 := by
      have : DataW.trod enc Try.prog w 0 (fun _ => true) held k 2 (([g0, g1, g2, g3, g4, g5, g6].drop 2).take (Try.prog.cellsOf 2)) = some y2 := hf 2 _ rfl
      rw [show Try.prog.cellsOf 2 = 1 by kernel_rfl] at this
      exact this
    have t3 : DataW.trod enc Try.prog w 0 (fun _ => true) held k 2 [g3] = some y3 := by
      have : DataW.trod enc Try.prog w 0 (fun _ => true) held k 2 (([g0, g1, g2, g3, g4, g5, g6].drop 3).take (Try.prog.cellsOf 2)) = some y3 := hf 3 _ rfl
      rw [show Try.prog.cellsOf 2 = 1 by kernel_rfl] at this
      exact this
    have t4 : DataW.trod enc Try.prog w 0 (fun _ => true) held k 34 [g4, g5] = some y4 := by
      have : DataW.trod enc Try.prog w 0 (fun _ => true) held k 34 (([g0, g1, g2, g3, g4, g5, g6].drop 4).take (Try.prog.cellsOf 34)) = some y4 := hf 4 _ rfl
      rw [show Try.prog.cellsOf 34 = 2 by kernel_rfl] at this
      exact this
    have t5 : DataW.trod enc Try.prog w 0 (fun _ => true) held k 9 [g6] = some y5 := by
      have : DataW.trod enc Try.prog w 0 (fun _ => true) held k 9 (([g0, g1, g2, g3, g4, g5, g6].drop 6).take (Try.prog.cellsOf 9)) = some y5 := hf 5 _ rfl
      rw [show Try.prog.cellsOf 9 = 1 by kernel_rfl] at this
      exact this
    obtain ⟨a0, rfl, w0⟩ := open_num Try.underlying3 t0
    obtain ⟨a1, rfl, w1⟩ := open_num Try.underlying2 t1
    obtain ⟨a2, rfl, w2⟩ := open_num Try.underlying2 t2
    obtain ⟨a3, rfl, w3⟩ := open_num Try.underlying2 t3
    obtain ⟨zs, k2, _, hzl, hD2, hf2⟩ := open_laidK Try.underlying34 (by kernel_rfl) (by kernel_rfl) t4
    match zs, hzl with
    | [z0, z1], _ =>
      have s0 : DataW.trod enc Try.prog w 0 (fun _ => true) held k2 9 [g4] = some z0 := hf2 0 _ rfl
      have s1 : DataW.trod enc Try.prog w 0 (fun _ => true) held k2 9 [g5] = some z1 := hf2 1 _ rfl
      obtain ⟨a4, rfl, z4⟩ := open_strK Try.underlying9 s0
      obtain ⟨a5, rfl, z5⟩ := open_strK Try.underlying9 s1
      obtain ⟨a6, rfl, -⟩ := open_str Try.underlying9 t5
      exact ⟨⟨a0, a1, a2, a3, (a4, a5), a6⟩, ⟨wf_i64 w0, wf_i64 w1, wf_i64 w2, wf_i64 w3, z4, z5⟩, rfl⟩
/-- A lock as it came in. -/
theorem open_lkK {H : Type} {enc : TypeId × Value → H} {w : World} {held : Bool} {fuel : Nat} {cs : List Value} {y : DataW H × List MemPlace} (h : DataW.trod enc Try.prog w 0 (fun _ => true) held fuel 34 cs = some y) :
    ∃ l : Lk, (l.1.size ≤ maxLen ∧ l.2.size ≤ maxLen) ∧ cs = [.string l.1, .string l.2] := by
  obtain ⟨zs, k2, hcl, hzl, hD2, hf2⟩ := open_laidK Try.underlying34 (by kernel_rfl) (by kernel_rfl) h
  match cs, hcl, zs, hzl with
  | [g4, g5], _, [z0, z1], _ =>
    have s0 : DataW.trod enc Try.prog w 0 (fun _ => true) held k2 9 [g4] = some z0 := hf2 0 _ rfl
    have s1 : DataW.trod enc Try.prog w 0 (fun _ => true) held k2 9 [g5] = some z1 := hf2 1 _ rfl
    obtain ⟨a4, rfl, z4⟩ := open_strK Try.underlying9 s0
    obtain ⟨a5, rfl, z5⟩ := open_strK Try.underlying9 s1
    exact ⟨(a4, a5), ⟨z4, z5⟩, rfl⟩
/-- A struct's cells. -/
theorem open_aggK {H : Type} {enc : TypeId × Value → H} {P : Program} {w : World} {held : Bool} {r : Reach} {b0 : Nat} {t : TypeId} {fs : Array Field} {v : Value} {d : DataW H} {p : List MemPlace} (hs : P.underlying t = some (.struct fs))
    (hv : Value.okWide P w r b0 t v) (h : DataW.Trod enc P w 0 (fun _ => true) held t v d p) : ∃ (cs : List Value) (n : Nat), v = .agg cs.toArray ∧ DataW.trod enc P w 0 (fun _ => true) held n t cs = some (d, p) := by
  obtain ⟨cs, rfl, -⟩ := okWide_struct hs hv
  obtain ⟨n, hn⟩ := h
  exact ⟨cs.toList, n, rfl, hn⟩
/-- A script as it came in. -/
theorem open_opsK {H : Type} {enc : TypeId × Value → H} {w : World} {held : Bool} {fuel : Nat} {v : Value} {y : DataW H × List MemPlace} (h : DataW.trod enc Try.prog w 0 (fun _ => true) held fuel 22 [v] = some y) :
    ∃ A len cap os, v = .slice A len cap ∧ RK w A len os ∧ len ≤ cap ∧ cap ≤ maxLen ∧ ((y.1 = .nil ∧ cap = 0) ∨ ∃ elems rest, y.1 = .slice elems rest ∧ elems.length + rest.length = cap) := by
  rcases open_slice Try.underlying22 h with ⟨hcs, rfl⟩ | ⟨a, len, cap, m, n, D, Pl, hcs, _, hlc, hm, hmm, rfl, hx⟩
  · obtain rfl : v = .slice none 0 0 := by simpa using hcs
    exact ⟨none, 0, 0, [], rfl, ⟨rfl, by simp, fun h => absurd h (by omega)⟩, Nat.le_refl _, by simp [maxLen], .inl ⟨rfl, rfl⟩⟩
  obtain rfl : v = .slice (some a) len cap := by simpa using hcs
  simp only [if_true] at hmm
  subst hmm
  have key : ∀ i, i < len → ∃ o : OpK, OpKIs o ∧ ∀ j, j < 7 → w.cell? ((a.add (i * 7)).add j) = some (o.cells.getD j undef) := by
    intro i hi
    obtain ⟨cs', h1, h2⟩ := hx i (by omega)
    rw [cellsOpK] at h1
    obtain ⟨hlen, hcell⟩ := cells_mapMK h1
    obtain ⟨o, ho, rfl⟩ := open_opK h2
    exact ⟨o, ho, fun j hj => hcell j hj⟩
  obtain ⟨f, hf⟩ := choose_lt key
  refine ⟨some a, len, m, (List.range len).map f, rfl, ⟨by simp, fun o ho => ?_, fun hn => ?_⟩, hlc, hm, .inr ⟨_, _, rfl, by simp; omega⟩⟩
  · obtain ⟨i, hi, rfl⟩ := List.mem_map.1 ho
    exact (hf i (by simpa using hi)).1
  · have h0 := (hf 0 hn).2 0 (by omega)
    rw [show (a.add (0 * 7)).add 0 = a from rfl] at h0
    obtain ⟨b, o, rfl⟩ := spot_addK (spot_noneK h0)
    refine ⟨b, o, rfl, fun j x hx => ?_⟩
    have hj : j < len := by have := (List.getElem?_eq_some_iff.1 hx).1; simpa using this
    have hxe : f j = x := by simpa [hj] using hx
    intro k u hu
    have hk : k < 7 := (List.getElem?_eq_some_iff.1 hu).1
    have := (hf j hj).2 k hk
    rw [Addr.add_mid, Addr.add_mid, hxe] at this
    rw [this, List.getD_eq_getElem?_getD, hu]
    rfl
end Go.Proofs.Ytghnafknbgmagaa
