/- How the arguments of layer 2's laws are opened: numbers in a row, operations of a script. -/
import Derived.Test.YtapjgancaldgaaaRows
import Derived.Test.YtapjgancaldgaaaOpen
import Derived.Test.YtapjgancaldgaaaDSt
import Derived.Deep.Slices
namespace Go.Proofs.Ytapjgancaldgaaa
set_option maxRecDepth 100000
open Go.Joins Go.Deep Go.ChangeShapes Go.WideShapes Go.ChangeAt Go.RowKit

/-- The slice of address A and length n reads as the numbers zs. -/
structure RI (w : World) (A : Option Addr) (n : Nat) (zs : List Int) : Prop where
  len : zs.length = n
  rng : ∀ z ∈ zs, -9223372036854775808 ≤ z ∧ z ≤ 9223372036854775807
  cell : 0 < n → ∃ b o, A = some ⟨b, o, none⟩ ∧ ∀ j, j < n → w.cell? ⟨b, o + j, none⟩ = some (.int .i64 (zs.getD j 0))
theorem RI.keep {w w' : World} {A : Option Addr} {n : Nat} {zs : List Int} (h : RI w A n zs) (hk : ∀ (p : Addr) v, w.cell? p = some v → w'.cell? p = some v) : RI w' A n zs :=
  ⟨h.len, h.rng, fun hn => by
    obtain ⟨b, o, e, hc⟩ := h.cell hn
    exact ⟨b, o, e, fun j hj => hk _ _ (hc j hj)⟩⟩
theorem RI.below {w w' : World} {A : Option Addr} {n : Nat} {zs : List Int} (h : RI w A n zs) (hb : Below w.heap.size w w') : RI w' A n zs := h.keep fun _ _ hp => keep_below hp hb

/-- One operation of a script. -/
structure OpD where
  do_ : Int
  n : Int
  A1 : Option Addr
  n1 : Nat
  c1 : Nat
  z1 : List Int
  A2 : Option Addr
  n2 : Nat
  c2 : Nat
  z2 : List Int
def OpD.cells (o : OpD) : List Value := [.int .i64 o.do_, .int .i64 o.n, .slice o.A1 o.n1 o.c1, .slice o.A2 o.n2 o.c2]
structure OpIs (w : World) (o : OpD) : Prop where
  rd : -9223372036854775808 ≤ o.do_ ∧ o.do_ ≤ 9223372036854775807
  rn : -9223372036854775808 ≤ o.n ∧ o.n ≤ 9223372036854775807
  b1 : RB w o.A1 o.n1 o.z1
  l1 : o.n1 ≤ o.c1
  m1 : o.c1 ≤ 140737488351232
  b2 : RI w o.A2 o.n2 o.z2
  l2 : o.n2 ≤ o.c2
  m2 : o.c2 ≤ 17592186043904
theorem OpIs.below {w w' : World} {o : OpD} (h : OpIs w o) (hb : Below w.heap.size w w') : OpIs w' o := ⟨h.rd, h.rn, h.b1.below' hb, h.l1, h.m1, h.b2.below hb, h.l2, h.m2⟩
/-- The slice of address A and length n is the script os. -/
structure RO (w : World) (A : Option Addr) (n : Nat) (os : List OpD) : Prop where
  len : os.length = n
  is : ∀ o ∈ os, OpIs w o
  row : 0 < n → ∃ b o, A = some ⟨b, o, none⟩ ∧ ∀ (j : Nat) (x : OpD), os[j]? = some x → w.rangeAt b (o + j * 4) x.cells
theorem rangeAt_below {w w' : World} {b o : Nat} {cs : List Value} (h : w.rangeAt b o cs) (hb : Below w.heap.size w w') : w'.rangeAt b o cs := fun j v hv => keep_below (h j v hv) hb
theorem RO.below {w w' : World} {A : Option Addr} {n : Nat} {os : List OpD} (h : RO w A n os) (hb : Below w.heap.size w w') : RO w' A n os :=
  ⟨h.len, fun o ho => (h.is o ho).below hb, fun hn => by
    obtain ⟨b, o, e, hr⟩ := h.row hn
    exact ⟨b, o, e, fun j x hx => rangeAt_below (hr j x hx) hb⟩⟩

section
variable {H : Type} {enc : TypeId × Value → H} {P : Program} {w : World} {held : Bool}

theorem spot_none {w : World} {ad : Addr} {v : Value} (hc : w.cell? ad = some v) : ad.spot = none := by
  unfold World.cell? at hc
  split at hc
  · split at hc
    · cases hc
    · rename_i hh; simpa using hh
  · cases hc
theorem spot_add {w : World} {ad : Addr} (h : ad.spot = none) : ∃ b o, ad = ⟨b, o, none⟩ := by
  obtain ⟨b, o, s⟩ := ad
  simp only at h
  subst h
  exact ⟨b, o, rfl⟩

theorem open_intsR {t e : TypeId} {fuel : Nat} {v : Value} {y : DataW H × List MemPlace} (ht : P.underlying t = some (.slice e)) (he : P.underlying e = some (.int .i64)) (hc : P.cellsOf e = 1)
    (h : DataW.trod enc P w 0 (fun _ => true) held fuel t [v] = some y) :
    ∃ A len cap zs, v = .slice A len cap ∧ RI w A len zs ∧ len ≤ cap ∧ cap ≤ maxLen ∧
      ((y.1 = .nil ∧ cap = 0) ∨ ∃ elems rest, y.1 = .slice elems rest ∧ elems.length + rest.length = cap) := by
  rcases open_ints ht he hc h with ⟨hcs, hy⟩ | ⟨x, l, c, zs, hcs, _, hl, hm, hz, hy, hcell, hwz⟩
  · obtain rfl : v = .slice none 0 0 := by simpa using hcs
    exact ⟨none, 0, 0, [], rfl, ⟨rfl, by simp, fun h => absurd h (by omega)⟩, Nat.le_refl _, by simp [maxLen], .inl ⟨by rw [hy], rfl⟩⟩
  · obtain rfl : v = .slice (some x) l c := by simpa using hcs
    have hz' : zs.length = c := by simpa using hz
    refine ⟨some x, l, c, zs.take l, rfl, ⟨by simp; omega, fun z hzz => wf_i64 (hwz z (List.mem_of_mem_take hzz)), fun hl0 => ?_⟩, hl, hm, .inr ⟨_, _, by rw [hy], ?_⟩⟩
    · have h0 := hcell 0 (by omega)
      rw [show x.add 0 = x from rfl] at h0
      obtain ⟨b, o, rfl⟩ := spot_add (w := w) (spot_none h0)
      refine ⟨b, o, rfl, fun j hj => ?_⟩
      have := hcell j (by omega)
      rw [Addr.add_mid] at this
      rw [this]
      simp [List.getD_eq_getElem?_getD, hj]
    · simp [lits]; omega

theorem light_sized {t e : TypeId} {d : DataW H} {cap b : Nat} (ht : P.underlying t = some (.slice e)) (hb : P.bytesOf e = b) (h : Light P t d)
    (hd : (d = .nil ∧ cap = 0) ∨ ∃ elems rest, d = .slice elems rest ∧ elems.length + rest.length = cap) : cap * b ≤ 140737488351232 := by
  rcases hd with ⟨_, rfl⟩ | ⟨elems, rest, rfl, hc⟩
  · omega
  · have := h ((elems.length + rest.length) * P.bytesOf e) (by simp [DataW.weights, ht])
    rw [hb, hc] at this
    simpa [reachBytes] using this
theorem weightsAll_in {e : TypeId} {d : DataW H} : ∀ {l : List (DataW H)}, d ∈ l → ∀ n ∈ d.weights P e, n ∈ DataW.weightsAll P e l
  | x :: r, hd, n, hn => by
    rw [DataW.weightsAll, List.mem_append]
    rcases List.mem_cons.1 hd with rfl | hd
    · exact .inl hn
    · exact .inr (weightsAll_in hd n hn)
theorem light_elem {t e : TypeId} {elems rest : List (DataW H)} (ht : P.underlying t = some (.slice e)) (h : Light P t (.slice elems rest)) {d : DataW H} (hd : d ∈ elems) : Light P e d :=
  fun n hn => h n (by simp only [DataW.weights, ht, List.mem_cons, List.mem_append]; exact .inr (.inl (weightsAll_in hd n hn)))

/-- A struct of one-cell fields, as it lies. -/
theorem open_laid {t : TypeId} {fs : Array Field} {m : Nat} {cs : List Value} {y : DataW H × List MemPlace} (hs : P.underlying t = some (.struct fs)) (hone : oneCellFields P fs = true) (hC : P.cellsOf t = fs.size)
    (h : DataW.trod enc P w 0 (fun _ => true) held m t cs = some y) :
    ∃ (ys : List (DataW H × List MemPlace)) (n : Nat), cs.length = fs.size ∧ ys.length = fs.size ∧ y.1 = .agg (ys.map (·.1)) ∧
      ∀ (j : Nat) (f : Field), fs[j]? = some f → DataW.trod enc P w 0 (fun _ => true) held n f.type [cs.getD j undef] = some (ys.getD j (.nil, [])) := by
  obtain ⟨xs, n, _, hx, hcl, hlen, hg⟩ := DataW.trod_struct hs h
  have hcl' : cs.length = fs.size := hcl.trans hC
  refine ⟨xs, n, hcl', hlen, by rw [hx], fun j f hj => ?_⟩
  obtain ⟨ho, hk⟩ := hone_of hone j f hj
  have hjl : j < fs.size := (Array.getElem?_eq_some_iff.1 hj).1
  have h1 := hg j f hj
  rw [ho, hk] at h1
  have e1 : (cs.drop j).take 1 = [cs.getD j undef] := by
    rw [List.drop_eq_getElem_cons (by omega), List.take_succ_cons, List.take_zero]
    simp [List.getD_eq_getElem?_getD, List.getElem?_eq_getElem (show j < cs.length by omega)]
  rw [e1] at h1
  rw [h1, List.getD_eq_getElem?_getD, List.getElem?_eq_getElem (show j < xs.length by omega)]
  rfl
end

theorem cellsInt : Try.prog.cellsOf 3 = 1 := by kernel_rfl
theorem cellsU8 : Try.prog.cellsOf 5 = 1 := by kernel_rfl
theorem cellsOp : Try.prog.cellsOf 37 = 4 := by kernel_rfl
theorem bytesInt : Try.prog.bytesOf 3 = 8 := by kernel_rfl
theorem bytesU8 : Try.prog.bytesOf 5 = 1 := by kernel_rfl
theorem bytesOp : Try.prog.bytesOf 37 = 64 := by kernel_rfl

theorem cells_mapM {w : World} {a : Addr} {n : Nat} {cs : List Value} (h : w.cells? 0 a n = some cs) : cs.length = n ∧ ∀ j, j < n → w.cell? (a.add j) = some (cs.getD j undef) := by
  unfold World.cells? at h
  rw [if_pos (Nat.zero_le _)] at h
  have hlen : cs.length = n := by simpa using Go.mapM_some_length h
  refine ⟨hlen, fun j hj => ?_⟩
  have := Go.mapM_some_get h j j (by simp [hj])
  rw [this, List.getD_eq_getElem?_getD, List.getElem?_eq_getElem (by omega)]
  rfl

instance : Inhabited OpD := ⟨⟨0, 0, none, 0, 0, [], none, 0, 0, []⟩⟩

/-- A script as it came in. -/
theorem open_script {H : Type} {enc : TypeId × Value → H} {w : World} {held : Bool} {fuel : Nat} {v : Value} {y : DataW H × List MemPlace} (h : DataW.trod enc Try.prog w 0 (fun _ => true) held fuel 22 [v] = some y) (hl : Light Try.prog 22 y.1) :
    ∃ A len cap os, v = .slice A len cap ∧ RO w A len os ∧ len ≤ cap ∧ cap ≤ 2199023255488 := by
  rcases open_slice Try.underlying22 h with ⟨hcs, rfl⟩ | ⟨a, len, cap, m, n, D, Pl, hcs, _, hlc, hm, hmm, rfl, hx⟩
  · obtain rfl : v = .slice none 0 0 := by simpa using hcs
    exact ⟨none, 0, 0, [], rfl, ⟨rfl, by simp, fun h => absurd h (by omega)⟩, Nat.le_refl _, by omega⟩
  obtain rfl : v = .slice (some a) len cap := by simpa using hcs
  have hcap : cap * 64 ≤ 140737488351232 := light_sized Try.underlying22 bytesOp hl (.inr ⟨_, _, rfl, by simp only [if_true] at hmm; subst hmm; simp; omega⟩)
  simp only [if_true] at hmm
  subst hmm
  have key : ∀ i, i < len → ∃ o : OpD, OpIs w o ∧ ∀ j, j < 4 → w.cell? ((a.add (i * 4)).add j) = some (o.cells.getD j undef) := by
    intro i hi
    obtain ⟨cs', h1, h2⟩ := hx i (by omega)
    rw [cellsOp] at h1
    obtain ⟨hlen, hcell⟩ := cells_mapM h1
    obtain ⟨ys, k, _, hyl, hD, hf⟩ := open_laid Try.underlying37 (by kernel_rfl) (by kernel_rfl) h2
    have hle : Light Try.prog 37 (D i) := light_elem Try.underlying22 hl (List.mem_map.2 ⟨i, by simp [hi], rfl⟩)
    simp only at hD
    rw [hD] at hle
    match cs', hlen, ys, hyl with
    | [g0, g1, g2, g3], _, [y0, y1, y2, y3], _ =>
      have t0 : DataW.trod enc Try.prog w 0 (fun _ => true) held k 3 [g0] = some y0 := hf 0 _ rfl
      have t1 : DataW.trod enc Try.prog w 0 (fun _ => true) held k 3 [g1] = some y1 := hf 1 _ rfl
      have t2 : DataW.trod enc Try.prog w 0 (fun _ => true) held k 34 [g2] = some y2 := hf 2 _ rfl
      have t3 : DataW.trod enc Try.prog w 0 (fun _ => true) held k 35 [g3] = some y3 := hf 3 _ rfl
      obtain ⟨a0, rfl, w0⟩ := open_num Try.underlying3 t0
      obtain ⟨a1, rfl, w1⟩ := open_num Try.underlying3 t1
      obtain ⟨A1, n1, c1, z1, rfl, hr1, hn1, _, hd1⟩ := open_bytes Try.underlying34 Try.underlying5 cellsU8 t2
      obtain ⟨A2, n2, c2, z2, rfl, hr2, hn2, _, hd2⟩ := open_intsR Try.underlying35 Try.underlying3 cellsInt t3
      have l1 : Light Try.prog 34 y2.1 := light_field Try.underlying37 hle (j := 2) rfl rfl
      have l2 : Light Try.prog 35 y3.1 := light_field Try.underlying37 hle (j := 3) rfl rfl
      have m1 := light_sized Try.underlying34 bytesU8 l1 hd1
      have m2 := light_sized Try.underlying35 bytesInt l2 hd2
      exact ⟨⟨a0, a1, A1, n1, c1, z1, A2, n2, c2, z2⟩, ⟨wf_i64 w0, wf_i64 w1, hr1, hn1, by simpa using m1, hr2, hn2, by simp only; omega⟩, fun j hj => hcell j hj⟩
  obtain ⟨f, hf⟩ := choose_lt key
  refine ⟨some a, len, m, (List.range len).map f, rfl, ⟨by simp, fun o ho => ?_, fun hn => ?_⟩, hlc, by omega⟩
  · obtain ⟨i, hi, rfl⟩ := List.mem_map.1 ho
    exact (hf i (by simpa using hi)).1
  · have h0 := (hf 0 hn).2 0 (by omega)
    rw [show (a.add (0 * 4)).add 0 = a from rfl] at h0
    obtain ⟨b, o, rfl⟩ := spot_add (w := w) (spot_none h0)
    refine ⟨b, o, rfl, fun j x hx => ?_⟩
    have hj : j < len := by have := (List.getElem?_eq_some_iff.1 hx).1; simpa using this
    have hxe : f j = x := by simpa [hj] using hx
    intro k u hu
    have hk : k < 4 := (List.getElem?_eq_some_iff.1 hu).1
    have := (hf j hj).2 k hk
    rw [Addr.add_mid, Addr.add_mid, hxe] at this
    rw [this, List.getD_eq_getElem?_getD, hu]
    rfl
end Go.Proofs.Ytapjgancaldgaaa
