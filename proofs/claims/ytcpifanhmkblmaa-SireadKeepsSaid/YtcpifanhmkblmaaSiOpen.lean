/- Layer 9: arguments of laws: notes, scripts of operations on notes. -/
import Derived.Test.YtcpifanhmkblmaaJAN
import Derived.Test.YtcpifanhmkblmaaJAF
import Derived.Deep.Slices
namespace Go.Proofs.Ytcpifanhmkblmaa
set_option maxRecDepth 100000
set_option maxRecDepth 100000
open Go.Joins Go.Deep Go.ChangeShapes Go.WideShapes Go.ChangeAt Go.RowKit

/-- An operation of a script. -/
structure OpS where
  kind : Int
  tx : Int
  x : Rd
  key : ByteArray
def OpS.cells (o : OpS) : List Value := [.int .i64 o.kind, .int .i64 o.tx, .string o.x.tb, .int .i64 o.x.kd, .string o.x.lo, .string o.x.hi, .string o.key]
structure RdIs (x : Rd) : Prop where
  rk : -9223372036854775808 ≤ x.kd ∧ x.kd ≤ 9223372036854775807
  lo : x.lo.size ≤ 140737488351232
  tb : x.tb.size ≤ 140737488351232
structure OpSIs (o : OpS) : Prop where
  rk : -9223372036854775808 ≤ o.kind ∧ o.kind ≤ 9223372036854775807
  rt : -9223372036854775808 ≤ o.tx ∧ o.tx ≤ 9223372036854775807
  x : RdIs o.x
  key : o.key.size ≤ 140737488351232
/-- The slice of address A and length n is the script os. -/
structure RS (w : World) (A : Option Addr) (n : Nat) (os : List OpS) : Prop where
  len : os.length = n
  is : ∀ o ∈ os, OpSIs o
  row : 0 < n → ∃ b o, A = some ⟨b, o, none⟩ ∧ ∀ (j : Nat) (x : OpS), os[j]? = some x → w.rangeAt b (o + j * 7) x.cells
theorem rangeAt_belowS {w w' : World} {b o : Nat} {cs : List Value} (h : w.rangeAt b o cs) (hb : Below w.heap.size w w') : w'.rangeAt b o cs := fun j v hv => keep_below (h j v hv) hb
theorem RS.below {w w' : World} {A : Option Addr} {n : Nat} {os : List OpS} (h : RS w A n os) (hb : Below w.heap.size w w') : RS w' A n os :=
  ⟨h.len, h.is, fun hn => by
    obtain ⟨b, o, e, hr⟩ := h.row hn
    exact ⟨b, o, e, fun j x hx => rangeAt_belowS (hr j x hx) hb⟩⟩
theorem RS.at_ {w : World} {A : Option Addr} {n : Nat} {os : List OpS} (h : RS w A n os) {j : Nat} {x : OpS} (hx : os[j]? = some x) : ∃ b o, A = some ⟨b, o, none⟩ ∧ w.cell? ⟨b, o + j * 7, none⟩ = some (.int .i64 x.kind) ∧ w.cell? ⟨b, o + j * 7 + 1, none⟩ = some (.int .i64 x.tx) ∧ w.cell? ⟨b, o + j * 7 + 2, none⟩ = some (.string x.x.tb) ∧ w.cell? ⟨b, o + j * 7 + 3, none⟩ = some (.int .i64 x.x.kd) ∧ w.cell? ⟨b, o + j * 7 + 4, none⟩ = some (.string x.x.lo) ∧ w.cell? ⟨b, o + j * 7 + 5, none⟩ = some (.string x.x.hi) ∧ w.cell? ⟨b, o + j * 7 + 6, none⟩ = some (.string x.key) := by
  obtain ⟨b, o, e, hr⟩ := h.row (by have := (List.getElem?_eq_some_iff.1 hx).1; have := h.len; omega)
  have q := hr j x hx
  exact ⟨b, o, e, q 0 _ rfl, q 1 _ rfl, q 2 _ rfl, q 3 _ rfl, q 4 _ rfl, q 5 _ rfl, q 6 _ rfl⟩
section
variable {H : Type} {enc : TypeId × Value → H} {P : Program} {w : World} {held : Bool}
theorem open_strS {t : TypeId} {fuel : Nat} {v : Value} {y : DataW H × List MemPlace} (ht : P.underlying t = some .string) (hl : Light P t y.1)
    (h : DataW.trod enc P w 0 (fun _ => true) held fuel t [v] = some y) : ∃ s : ByteArray, v = .string s ∧ s.size ≤ 140737488351232 := by
  obtain ⟨s, rfl, h2⟩ := open_str ht h
  rw [h2] at hl
  have h' := light_string hl
  rw [Array.length_toList] at h'
  exact ⟨s, rfl, h'⟩
theorem weightsAll_inS {e : TypeId} {d : DataW H} : ∀ {l : List (DataW H)}, d ∈ l → ∀ n ∈ d.weights P e, n ∈ DataW.weightsAll P e l
  | x :: r, hd, n, hn => by
    rw [DataW.weightsAll, List.mem_append]
    rcases List.mem_cons.1 hd with rfl | hd
    · exact .inl hn
    · exact .inr (weightsAll_inS hd n hn)
theorem light_elemS {t e : TypeId} {elems rest : List (DataW H)} (ht : P.underlying t = some (.slice e)) (h : Light P t (.slice elems rest)) {d : DataW H} (hd : d ∈ elems) : Light P e d :=
  fun n hn => h n (by simp only [DataW.weights, ht, List.mem_cons, List.mem_append]; exact .inr (.inl (weightsAll_inS hd n hn)))
theorem light_sizedS {t e : TypeId} {d : DataW H} {cap b : Nat} (ht : P.underlying t = some (.slice e)) (hb : P.bytesOf e = b) (h : Light P t d)
    (hd : (d = .nil ∧ cap = 0) ∨ ∃ elems rest, d = .slice elems rest ∧ elems.length + rest.length = cap) : cap * b ≤ 140737488351232 := by
  rcases hd with ⟨_, rfl⟩ | ⟨elems, rest, rfl, hc⟩
  · omega
  · have := h ((elems.length + rest.length) * P.bytesOf e) (by simp [DataW.weights, ht])
    rw [hb, hc] at this
    simpa [reachBytes] using this
theorem spot_noneS {w : World} {ad : Addr} {v : Value} (hc : w.cell? ad = some v) : ad.spot = none := by
  unfold World.cell? at hc
  split at hc
  · split at hc
    · cases hc
    · rename_i hh; simpa using hh
  · cases hc
theorem spot_addS {ad : Addr} (h : ad.spot = none) : ∃ b o, ad = ⟨b, o, none⟩ := by
  obtain ⟨b, o, s⟩ := ad
  simp only at h
  subst h
  exact ⟨b, o, rfl⟩
theorem open_laidS {t : TypeId} {fs : Array Field} {m : Nat} {cs : List Value} {y : DataW H × List MemPlace} (hs : P.underlying t = some (.struct fs)) (hone : oneCellFields P fs = true) (hC : P.cellsOf t = fs.size)
    (h : DataW.trod enc P w 0 (fun _ => true) held m t cs = some y) :
    ∃ (ys : List (DataW H × List MemPlace)) (n : Nat), cs.length = fs.size ∧ ys.length = fs.size ∧ y.1 = .agg (ys.map (·.1)) ∧
      ∀ (j : Nat) (f : Field), fs[j]? = some f → DataW.trod enc P w 0 (fun _ => true) held n f.type [cs.getD j undef] = some (ys.getD j (.nil, [])) := by
  obtain ⟨xs, n, _, hx, hcl, hlen, hg⟩ := DataW.trod_struct hs h
  have hcl' : cs.length = fs.size := hcl.trans hC
  refine ⟨xs, n, hcl', hlen, by rw [hx], fun j f hj => ?_⟩
  obtain ⟨ho, hk⟩ := hone_of hone j f hj
  have hjl : j < fs.size := (Array.getElem?_eq_some_iff.1 hj).1
  have h1 := hg j f hj
  rw [ho, hk] at h1
  have e1 : (cs.drop j).take 1 = [cs.getD j undef] := by
    rw [List.drop_eq_getElem_cons (by omega), List.take_succ_cons, List.take_zero]
    simp [List.getD_eq_getElem?_getD, List.getElem?_eq_getElem (show j < cs.length by omega)]
  rw [e1] at h1
  rw [h1, List.getD_eq_getElem?_getD, List.getElem?_eq_getElem (show j < xs.length by omega)]
  rfl
theorem open_wideS {t : TypeId} {fs : Array Field} {m : Nat} {cs : List Value} {y : DataW H × List MemPlace} (hs : P.underlying t = some (.struct fs))
    (h : DataW.trod enc P w 0 (fun _ => true) held m t cs = some y) :
    ∃ (ys : List (DataW H × List MemPlace)) (n : Nat), cs.length = P.cellsOf t ∧ ys.length = fs.size ∧ y.1 = .agg (ys.map (·.1)) ∧
      ∀ (j : Nat) (f : Field), fs[j]? = some f → DataW.trod enc P w 0 (fun _ => true) held n f.type ((cs.drop f.offset).take (P.cellsOf f.type)) = some (ys.getD j (.nil, [])) := by
  obtain ⟨xs, n, _, hx, hcl, hlen, hg⟩ := DataW.trod_struct hs h
  refine ⟨xs, n, hcl, hlen, by rw [hx], fun j f hj => ?_⟩
  have hjl : j < fs.size := (Array.getElem?_eq_some_iff.1 hj).1
  have h1 := hg j f hj
  rw [h1, List.getD_eq_getElem?_getD, List.getElem?_eq_getElem (show j < xs.length by omega)]
  rfl
end
theorem cellsOpS : Try.prog.cellsOf 33 = 7 := by kernel_rfl
theorem bytesOpS : Try.prog.bytesOf 33 = 88 := by kernel_rfl
theorem cells_mapMS {w : World} {a : Addr} {n : Nat} {cs : List Value} (h : w.cells? 0 a n = some cs) : cs.length = n ∧ ∀ j, j < n → w.cell? (a.add j) = some (cs.getD j undef) := by
  unfold World.cells? at h
  rw [if_pos (Nat.zero_le _)] at h
  have hlen : cs.length = n := by simpa using Go.mapM_some_length h
  refine ⟨hlen, fun j hj => ?_⟩
  have := Go.mapM_some_get h j j (by simp [hj])
  rw [this, List.getD_eq_getElem?_getD, List.getElem?_eq_getElem (by omega)]
  rfl
instance : Inhabited OpS := ⟨⟨0, 0, default, ⟨#[]⟩⟩⟩
/-- A note as it came in. -/
theorem open_rdS {H : Type} {enc : TypeId × Value → H} {w : World} {held : Bool} {fuel : Nat} {cs : List Value} {y : DataW H × List MemPlace} (h : DataW.trod enc Try.prog w 0 (fun _ => true) held fuel 31 cs = some y) (hl : Light Try.prog 31 y.1) :
    ∃ x : Rd, RdIs x ∧ cs = rdC x := by
  obtain ⟨zs, k2, hcl, hzl, hD2, hf2⟩ := open_laidS Try.underlying31 (by kernel_rfl) (by kernel_rfl) h
  match cs, hcl, zs, hzl with
  | [g0, g1, g2, g3], _, [z0, z1, z2, z3], _ =>
    have s0 : DataW.trod enc Try.prog w 0 (fun _ => true) held k2 9 [g0] = some z0 := hf2 0 _ rfl
    have s1 : DataW.trod enc Try.prog w 0 (fun _ => true) held k2 3 [g1] = some z1 := hf2 1 _ rfl
    have s2 : DataW.trod enc Try.prog w 0 (fun _ => true) held k2 9 [g2] = some z2 := hf2 2 _ rfl
    have s3 : DataW.trod enc Try.prog w 0 (fun _ => true) held k2 9 [g3] = some z3 := hf2 3 _ rfl
    rw [hD2] at hl
    have l2 : Light Try.prog 9 z2.1 := light_field Try.underlying31 hl (j := 2) rfl rfl
    have l0 : Light Try.prog 9 z0.1 := light_field Try.underlying31 hl (j := 0) rfl rfl
    obtain ⟨a0, rfl, q0⟩ := open_strS Try.underlying9 l0 s0
    obtain ⟨a1, rfl, w1⟩ := open_num Try.underlying3 s1
    obtain ⟨a2, rfl, q2⟩ := open_strS Try.underlying9 l2 s2
    obtain ⟨a3, rfl, -⟩ := open_str Try.underlying9 s3
    exact ⟨⟨a0, a1, a2, a3⟩, ⟨wf_i64 w1, q2, q0⟩, rfl⟩
/-- An operation as it came in. -/
theorem open_opS {H : Type} {enc : TypeId × Value → H} {w : World} {held : Bool} {fuel : Nat} {cs : List Value} {y : DataW H × List MemPlace} (h : DataW.trod enc Try.prog w 0 (fun _ => true) held fuel 33 cs = some y) (hl : Light Try.prog 33 y.1) :
    ∃ o : OpS, OpSIs o ∧ cs = o.cells := by
  obtain ⟨ys, k, hlen, hyl, hD, hf⟩ := open_wideS Try.underlying33 h
  rw [cellsOpS] at hlen
  match cs, hlen, ys, hyl with
  | [g0, g1, g2, g3, g4, g5, g6], _, [y0, y1, y2, y3], _ =>
    have t0 : DataW.trod enc Try.prog w 0 (fun _ => true) held k 3 [g0] = some y0 := by
      have : DataW.trod enc Try.prog w 0 (fun _ => true) held k 3 (([g0, g1, g2, g3, g4, g5, g6].drop 0).take (Try.prog.cellsOf 3)) = some y0 := hf 0 _ rfl
      rw [show Try.prog.cellsOf 3 = 1 by kernel_rfl] at this
      exact this
    have t1 : DataW.trod enc Try.prog w 0 (fun _ => true) held k 2 [g1] = some y1 := by
      have : DataW.trod enc Try.prog w 0 (fun _ => true) held k 2 (([g0, g1, g2, g3, g4, g5, g6].drop 1).take (Try.prog.cellsOf 2)) = some y1 := hf 1 _ rfl
      rw [show Try.prog.cellsOf 2 = 1 by kernel_rfl] at this
      exact this
    have t2 : DataW.trod enc Try.prog w 0 (fun _ => true) held k 31 [g2, g3, g4, g5] = some y2 := by
      have : DataW.trod enc Try.prog w 0 (fun _ => true) held k 31 (([g0, g1, g2, g3, g4, g5, g6].drop 2).take (Try.prog.cellsOf 31)) = some y2 := hf 2 _ rfl
      rw [show Try.prog.cellsOf 31 = 4 by kernel_rfl] at this
      exact this
    have t3 : DataW.trod enc Try.prog w 0 (fun _ => true) held k 9 [g6] = some y3 := by
      have : DataW.trod enc Try.prog w 0 (fun _ => true) held k 9 (([g0, g1, g2, g3, g4, g5, g6].drop 6).take (Try.prog.cellsOf 9)) = some y3 := hf 3 _ rfl
      rw [show Try.prog.cellsOf 9 = 1 by kernel_rfl] at this
      exact this
    rw [hD] at hl
    have l2 : Light Try.prog 31 y2.1 := light_field Try.underlying33 hl (j := 2) rfl rfl
    obtain ⟨a0, rfl, w0⟩ := open_num Try.underlying3 t0
    obtain ⟨a1, rfl, w1⟩ := open_num Try.underlying2 t1
    obtain ⟨x, hx, hx2⟩ := open_rdS t2 l2
    have l3 : Light Try.prog 9 y3.1 := light_field Try.underlying33 hl (j := 3) rfl rfl
    obtain ⟨a6, rfl, q6⟩ := open_strS Try.underlying9 l3 t3
    obtain ⟨tb, kd, lo, hi⟩ := x
    simp only [rdC, List.cons.injEq, and_true] at hx2
    obtain ⟨rfl, rfl, rfl, rfl⟩ := hx2
    exact ⟨⟨a0, a1, ⟨tb, kd, lo, hi⟩, a6⟩, ⟨wf_i64 w0, wf_i64 w1, hx, q6⟩, rfl⟩
/-- A struct's cells. -/
theorem open_aggS {H : Type} {enc : TypeId × Value → H} {P : Program} {w : World} {held : Bool} {r : Reach} {b0 : Nat} {t : TypeId} {fs : Array Field} {v : Value} {d : DataW H} {p : List MemPlace} (hs : P.underlying t = some (.struct fs))
    (hv : Value.okWide P w r b0 t v) (h : DataW.Trod enc P w 0 (fun _ => true) held t v d p) : ∃ (cs : List Value) (n : Nat), v = .agg cs.toArray ∧ DataW.trod enc P w 0 (fun _ => true) held n t cs = some (d, p) := by
  obtain ⟨cs, rfl, -⟩ := okWide_struct hs hv
  obtain ⟨n, hn⟩ := h
  exact ⟨cs.toList, n, rfl, hn⟩
/-- A script as it came in. -/
theorem open_opsS {H : Type} {enc : TypeId × Value → H} {w : World} {held : Bool} {fuel : Nat} {v : Value} {y : DataW H × List MemPlace} (h : DataW.trod enc Try.prog w 0 (fun _ => true) held fuel 22 [v] = some y) (hl : Light Try.prog 22 y.1) :
    ∃ A len cap os, v = .slice A len cap ∧ RS w A len os ∧ len ≤ cap ∧ cap ≤ 1599289640354 := by
  rcases open_slice Try.underlying22 h with ⟨hcs, rfl⟩ | ⟨a, len, cap, m, n, D, Pl, hcs, _, hlc, hm, hmm, rfl, hx⟩
  · obtain rfl : v = .slice none 0 0 := by simpa using hcs
    exact ⟨none, 0, 0, [], rfl, ⟨rfl, by simp, fun h => absurd h (by omega)⟩, Nat.le_refl _, by omega⟩
  obtain rfl : v = .slice (some a) len cap := by simpa using hcs
  have hcap : cap * 88 ≤ 140737488351232 := light_sizedS Try.underlying22 bytesOpS hl (.inr ⟨_, _, rfl, by simp only [if_true] at hmm; subst hmm; simp; omega⟩)
  simp only [if_true] at hmm
  subst hmm
  have key : ∀ i, i < len → ∃ o : OpS, OpSIs o ∧ ∀ j, j < 7 → w.cell? ((a.add (i * 7)).add j) = some (o.cells.getD j undef) := by
    intro i hi
    obtain ⟨cs', h1, h2⟩ := hx i (by omega)
    rw [cellsOpS] at h1
    obtain ⟨hlen, hcell⟩ := cells_mapMS h1
    have hle : Light Try.prog 33 (D i) := light_elemS Try.underlying22 hl (List.mem_map.2 ⟨i, by simp [hi], rfl⟩)
    obtain ⟨o, ho, rfl⟩ := open_opS h2 hle
    exact ⟨o, ho, fun j hj => hcell j hj⟩
  obtain ⟨f, hf⟩ := choose_lt key
  refine ⟨some a, len, m, (List.range len).map f, rfl, ⟨by simp, fun o ho => ?_, fun hn => ?_⟩, hlc, by omega⟩
  · obtain ⟨i, hi, rfl⟩ := List.mem_map.1 ho
    exact (hf i (by simpa using hi)).1
  · have h0 := (hf 0 hn).2 0 (by omega)
    rw [show (a.add (0 * 7)).add 0 = a from rfl] at h0
    obtain ⟨b, o, rfl⟩ := spot_addS (spot_noneS h0)
    refine ⟨b, o, rfl, fun j x hx => ?_⟩
    have hj : j < len := by have := (List.getElem?_eq_some_iff.1 hx).1; simpa using this
    have hxe : f j = x := by simpa [hj] using hx
    intro k u hu
    have hk : k < 7 := (List.getElem?_eq_some_iff.1 hu).1
    have := (hf j hj).2 k hk
    rw [Addr.add_mid, Addr.add_mid, hxe] at this
    rw [this, List.getD_eq_getElem?_getD, hu]
    rfl
end Go.Proofs.Ytcpifanhmkblmaa
