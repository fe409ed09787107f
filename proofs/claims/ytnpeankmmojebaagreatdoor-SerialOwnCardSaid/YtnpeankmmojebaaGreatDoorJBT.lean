import Derived.Test.YtnpeankmmojebaaGreatDoorJAY
import Derived.Test.YtnpeankmmojebaaGreatDoorRows
import Derived.RowKit
import Derived.ProofKit
import Derived.LaidMore
import Derived.LaidOnce
import Derived.Stop.Joined
import Derived.MakeChecks
import Derived.Test.YtnpeankmmojebaaGreatDoorJBS
import Derived.Test.YtnpeankmmojebaaGreatDoorJAM
import Derived.Deep.Slices
/- Layer 11: what the listed package variable gives: the table of bits.TrailingZeros64. -/
set_option linter.unusedVariables false
namespace Go.Proofs.YtnpeankmmojebaaGreatDoor
set_option maxRecDepth 100000
open Go.ChangeShapes Go.WideShapes Go.ChangeAt Go.RowKit

theorem mapM_get {α β : Type} (f : α → Option β) : ∀ (l : List α) (xs : List β), l.mapM f = some xs → ∀ (i : Nat) (a : α), l[i]? = some a → ∃ b, xs[i]? = some b ∧ f a = some b
  | [], xs, _, i, a, hi => by simp at hi
  | x :: l, xs, h, i, a, hi => by
    rw [List.mapM_cons] at h
    simp only [Option.bind_eq_bind, Option.bind_eq_some_iff, Option.pure_def, Option.some.injEq] at h
    obtain ⟨y, hy, ys, hys, rfl⟩ := h
    cases i with
    | zero =>
      simp only [List.getElem?_cons_zero, Option.some.injEq] at hi
      subst hi
      exact ⟨y, by simp, hy⟩
    | succ i =>
      simp only [List.getElem?_cons_succ] at hi
      obtain ⟨b, h1, h2⟩ := mapM_get f l ys hys i a hi
      exact ⟨b, by simpa using h1, h2⟩
theorem laid_int {H : Type} {enc : TypeId × Value → H} {P : Program} {w : World} {base : Nat} {sp : Nat → Bool} {held : Bool} {fuel : Nat} {t : TypeId} {k : IntKind} {c : Value} {y : DataW H × List MemPlace}
    (ht : P.underlying t = some (.int k)) (h : DataW.trod enc P w base sp held fuel t [c] = some y) : ∃ n, c = .int k n ∧ y.1 = .lit (.int k n) := by
  cases fuel with
  | zero => simp [DataW.trod] at h
  | succ fuel =>
    cases c <;> simp [DataW.trod, ht] at h
    rename_i k' n
    obtain ⟨⟨rfl, _⟩, rfl⟩ := h
    exact ⟨n, rfl, rfl⟩
theorem tz_name : Tryz.prog.globalNamed "math/bits.deBruijn64tab" = some 0 := by kernel_rfl
theorem tz_type : (Tryz.prog.globals[0]?).map (·.type) = some 117 := by kernel_rfl
theorem tz_cells : Tryz.prog.cellsOf 117 = 64 := by kernel_rfl
theorem u8_cells : Tryz.prog.cellsOf 5 = 1 := by kernel_rfl
theorem tz_data : Rows.laid_math_bits_deBruijn64tab = (.agg (tabN.map fun (b : Nat) => DataW.lit (.int .u8 (b : Int))) : DataW Unit) := rfl
theorem tz_trod {W : World} {fuel : Nat} {l : List Value} {p : List MemPlace} (h : DataW.trod (fun _ => ()) Tryz.prog W 0 (fun _ => true) false fuel 117 l = some (Rows.laid_math_bits_deBruijn64tab, p)) : l = tabV := by
  cases fuel with
  | zero => simp [DataW.trod] at h
  | succ fuel =>
    simp only [DataW.trod, Tryz.underlying117, tz_cells, u8_cells] at h
    split at h
    · rename_i hl
      simp only [Option.map_eq_some_iff] at h
      obtain ⟨xs, hm, hx⟩ := h
      have h3 := congrArg Prod.fst hx
      rw [tz_data] at h3
      have h3 : xs.map (·.1) = tabN.map fun (b : Nat) => DataW.lit (.int .u8 (b : Int)) := by injection h3
      apply List.ext_getElem?
      intro i
      by_cases hi : i < 64
      · obtain ⟨y, hy, hf⟩ := mapM_get _ _ _ hm i i (by rw [List.getElem?_range hi])
        have hil : i < l.length := by omega
        have hc : (l.drop (i * 1)).take 1 = [l[i]] := by
          rw [Nat.mul_one, List.drop_eq_getElem_cons hil, List.take_succ_cons, List.take_zero]
        rw [hc] at hf
        obtain ⟨s, hs, hy1⟩ := laid_int Tryz.underlying5 hf
        have h4 : (xs.map (·.1))[i]? = some y.1 := by rw [List.getElem?_map, hy]; rfl
        rw [h3, List.getElem?_map, hy1] at h4
        have hw : i < tabN.length := by show i < 64; exact hi
        rw [List.getElem?_eq_getElem hw] at h4
        simp only [Option.map_some, Option.some.injEq, DataW.lit.injEq, Lit.int.injEq, true_and] at h4
        rw [List.getElem?_eq_getElem hil, hs]
        unfold tabV
        rw [List.getElem?_map, List.getElem?_eq_getElem hw]
        simp only [Option.map_some, Option.some.injEq, Value.int.injEq, true_and]
        exact h4.symm
      · rw [List.getElem?_eq_none (by omega), List.getElem?_eq_none (by show 64 ≤ i; omega)]
    · cases h
theorem tz_of_met {W : World} (h : laidMetH Tryz.prog [("math/bits.deBruijn64tab", Rows.laid_math_bits_deBruijn64tab)] W) : TzAt W := by
  have hp : laidMet Tryz.prog [("math/bits.deBruijn64tab", Rows.laid_math_bits_deBruijn64tab)] W := by
    rw [MakeChecks.laidMetH_plain _ _ _ (by kernel_rfl)] at h; exact h
  obtain ⟨ps, ⟨g, t, cs, fuel, p, q, hg, ht, hv, hd, _, _⟩, _⟩ := hp
  obtain rfl := Option.some.inj (tz_name.symm.trans hg)
  obtain rfl := Option.some.inj (tz_type.symm.trans ht)
  have he := tz_trod hd
  intro j v hj
  rw [Nat.zero_add, World.var?_cell hg hv j, ← hj, ← he]
  simp
end Go.Proofs.YtnpeankmmojebaaGreatDoor

/- Layer 11: a history as it comes in as an argument. -/
namespace Go.Proofs.YtnpeankmmojebaaGreatDoor
set_option maxRecDepth 100000
set_option maxRecDepth 100000
open Go.Joins Go.Deep Go.ChangeShapes Go.WideShapes Go.ChangeAt Go.RowKit

theorem rangeAt_belowS {w w' : World} {b o : Nat} {cs : List Value} (h : w.rangeAt b o cs) (hb : Below w.heap.size w w') : w'.rangeAt b o cs := fun j v hv => keep_below (h j v hv) hb
section
variable {H : Type} {enc : TypeId × Value → H} {P : Program} {w : World} {held : Bool}
theorem open_strS {t : TypeId} {fuel : Nat} {v : Value} {y : DataW H × List MemPlace} (ht : P.underlying t = some .string) (hl : Light P t y.1)
    (h : DataW.trod enc P w 0 (fun _ => true) held fuel t [v] = some y) : ∃ s : ByteArray, v = .string s ∧ s.size ≤ 140737488351232 := by
  obtain ⟨s, rfl, h2⟩ := open_str ht h
  rw [h2] at hl
  have h' := light_string hl
  rw [Array.length_toList] at h'
  exact ⟨s, rfl, h'⟩
theorem weightsAll_inS {e : TypeId} {d : DataW H} : ∀ {l : List (DataW H)}, d ∈ l → ∀ n ∈ d.weights P e, n ∈ DataW.weightsAll P e l
  | x :: r, hd, n, hn => by
    rw [DataW.weightsAll, List.mem_append]
    rcases List.mem_cons.1 hd with rfl | hd
    · exact .inl hn
    · exact .inr (weightsAll_inS hd n hn)
theorem light_elemS {t e : TypeId} {elems rest : List (DataW H)} (ht : P.underlying t = some (.slice e)) (h : Light P t (.slice elems rest)) {d : DataW H} (hd : d ∈ elems) : Light P e d :=
  fun n hn => h n (by simp only [DataW.weights, ht, List.mem_cons, List.mem_append]; exact .inr (.inl (weightsAll_inS hd n hn)))
theorem light_sizedS {t e : TypeId} {d : DataW H} {cap b : Nat} (ht : P.underlying t = some (.slice e)) (hb : P.bytesOf e = b) (h : Light P t d)
    (hd : (d = .nil ∧ cap = 0) ∨ ∃ elems rest, d = .slice elems rest ∧ elems.length + rest.length = cap) : cap * b ≤ 140737488351232 := by
  rcases hd with ⟨_, rfl⟩ | ⟨elems, rest, rfl, hc⟩
  · omega
  · have := h ((elems.length + rest.length) * P.bytesOf e) (by simp [DataW.weights, ht])
    rw [hb, hc] at this
    simpa [reachBytes] using this
theorem spot_noneS {w : World} {ad : Addr} {v : Value} (hc : w.cell? ad = some v) : ad.spot = none := by
  unfold World.cell? at hc
  split at hc
  · split at hc
    · cases hc
    · rename_i hh; simpa using hh
  · cases hc
theorem spot_addS {ad : Addr} (h : ad.spot = none) : ∃ b o, ad = ⟨b, o, none⟩ := by
  obtain ⟨b, o, s⟩ := ad
  simp only at h
  subst h
  exact ⟨b, o, rfl⟩
theorem open_laidS {t : TypeId} {fs : Array Field} {m : Nat} {cs : List Value} {y : DataW H × List MemPlace} (hs : P.underlying t = some (.struct fs)) (hone : oneCellFields P fs = true) (hC : P.cellsOf t = fs.size)
    (h : DataW.trod enc P w 0 (fun _ => true) held m t cs = some y) :
    ∃ (ys : List (DataW H × List MemPlace)) (n : Nat), cs.length = fs.size ∧ ys.length = fs.size ∧ y.1 = .agg (ys.map (·.1)) ∧
      ∀ (j : Nat) (f : Field), fs[j]? = some f → DataW.trod enc P w 0 (fun _ => true) held n f.type [cs.getD j undef] = some (ys.getD j (.nil, [])) := by
  obtain ⟨xs, n, _, hx, hcl, hlen, hg⟩ := DataW.trod_struct hs h
  have hcl' : cs.length = fs.size := hcl.trans hC
  refine ⟨xs, n, hcl', hlen, by rw [hx], fun j f hj => ?_⟩
  obtain ⟨ho, hk⟩ := hone_of hone j f hj
  have hjl : j < fs.size := (Array.getElem?_eq_some_iff.1 hj).1
  have h1 := hg j f hj
  rw [ho, hk] at h1
  have e1 : (cs.drop j).take 1 = [cs.getD j undef] := by
    rw [List.drop_eq_getElem_cons (by omega), List.take_succ_cons, List.take_zero]
    simp [List.getD_eq_getElem?_getD, List.getElem?_eq_getElem (show j < cs.length by omega)]
  rw [e1] at h1
  rw [h1, List.getD_eq_getElem?_getD, List.getElem?_eq_getElem (show j < xs.length by omega)]
  rfl
theorem open_wideS {t : TypeId} {fs : Array Field} {m : Nat} {cs : List Value} {y : DataW H × List MemPlace} (hs : P.underlying t = some (.struct fs))
    (h : DataW.trod enc P w 0 (fun _ => true) held m t cs = some y) :
    ∃ (ys : List (DataW H × List MemPlace)) (n : Nat), cs.length = P.cellsOf t ∧ ys.length = fs.size ∧ y.1 = .agg (ys.map (·.1)) ∧
      ∀ (j : Nat) (f : Field), fs[j]? = some f → DataW.trod enc P w 0 (fun _ => true) held n f.type ((cs.drop f.offset).take (P.cellsOf f.type)) = some (ys.getD j (.nil, [])) := by
  obtain ⟨xs, n, _, hx, hcl, hlen, hg⟩ := DataW.trod_struct hs h
  refine ⟨xs, n, hcl, hlen, by rw [hx], fun j f hj => ?_⟩
  have hjl : j < fs.size := (Array.getElem?_eq_some_iff.1 hj).1
  have h1 := hg j f hj
  rw [h1, List.getD_eq_getElem?_getD, List.getElem?_eq_getElem (show j < xs.length by omega)]
  rfl
end
theorem cells_mapMS {w : World} {a : Addr} {n : Nat} {cs : List Value} (h : w.cells? 0 a n = some cs) : cs.length = n ∧ ∀ j, j < n → w.cell? (a.add j) = some (cs.getD j undef) := by
  unfold World.cells? at h
  rw [if_pos (Nat.zero_le _)] at h
  have hlen : cs.length = n := by simpa using Go.mapM_some_length h
  refine ⟨hlen, fun j hj => ?_⟩
  have := Go.mapM_some_get h j j (by simp [hj])
  rw [this, List.getD_eq_getElem?_getD, List.getElem?_eq_getElem (by omega)]
  rfl
theorem open_aggS {H : Type} {enc : TypeId × Value → H} {P : Program} {w : World} {held : Bool} {r : Reach} {b0 : Nat} {t : TypeId} {fs : Array Field} {v : Value} {d : DataW H} {p : List MemPlace} (hs : P.underlying t = some (.struct fs))
    (hv : Value.okWide P w r b0 t v) (h : DataW.Trod enc P w 0 (fun _ => true) held t v d p) : ∃ (cs : List Value) (n : Nat), v = .agg cs.toArray ∧ DataW.trod enc P w 0 (fun _ => true) held n t cs = some (d, p) := by
  obtain ⟨cs, rfl, -⟩ := okWide_struct hs hv
  obtain ⟨n, hn⟩ := h
  exact ⟨cs.toList, n, rfl, hn⟩
theorem cellsAct : Tryz.prog.cellsOf 44 = 4 := by kernel_rfl
theorem bytesAct : Tryz.prog.bytesOf 44 = 40 := by kernel_rfl
theorem bytesI11 : Tryz.prog.bytesOf 3 = 8 := by kernel_rfl
theorem cellsI11 : Tryz.prog.cellsOf 3 = 1 := by kernel_rfl
/-- An act as it came in. -/
theorem open_act {H : Type} {enc : TypeId × Value → H} {w : World} {held : Bool} {fuel : Nat} {cs : List Value} {y : DataW H × List MemPlace} (h : DataW.trod enc Tryz.prog w 0 (fun _ => true) held fuel 44 cs = some y) (hl : Light Tryz.prog 44 y.1) :
    ∃ a : Ac, (wfI a.txn ∧ wfI a.ver ∧ a.item.size ≤ maxLen) ∧ cs = acC a := by
  obtain ⟨zs, k2, hcl, hzl, hD2, hf2⟩ := open_laidS Tryz.underlying44 (by kernel_rfl) (by kernel_rfl) h
  match cs, hcl, zs, hzl with
  | [g0, g1, g2, g3], _, [z0, z1, z2, z3], _ =>
    have s0 : DataW.trod enc Tryz.prog w 0 (fun _ => true) held k2 3 [g0] = some z0 := hf2 0 _ rfl
    have s1 : DataW.trod enc Tryz.prog w 0 (fun _ => true) held k2 4 [g1] = some z1 := hf2 1 _ rfl
    have s2 : DataW.trod enc Tryz.prog w 0 (fun _ => true) held k2 9 [g2] = some z2 := hf2 2 _ rfl
    have s3 : DataW.trod enc Tryz.prog w 0 (fun _ => true) held k2 3 [g3] = some z3 := hf2 3 _ rfl
    rw [hD2] at hl
    have l2 : Light Tryz.prog 9 z2.1 := light_field Tryz.underlying44 hl (j := 2) rfl rfl
    obtain ⟨a0, rfl, w0⟩ := open_num Tryz.underlying3 s0
    obtain ⟨a1, rfl⟩ := open_bit Tryz.underlying4 s1
    obtain ⟨a2, rfl, q2⟩ := open_strS Tryz.underlying9 l2 s2
    obtain ⟨a3, rfl, w3⟩ := open_num Tryz.underlying3 s3
    exact ⟨⟨a0, a1, a2, a3⟩, ⟨wfI_of (wf_i64 w0), wfI_of (wf_i64 w3), by simp only [maxLen]; omega⟩, rfl⟩

/-- The acts as they came in. -/
theorem open_acts {H : Type} {enc : TypeId × Value → H} {w : World} {held : Bool} {fuel : Nat} {v : Value} {y : DataW H × List MemPlace} (h : DataW.trod enc Tryz.prog w 0 (fun _ => true) held fuel 23 [v] = some y) (hl : Light Tryz.prog 23 y.1) :
    ∃ A len cap xs, v = .slice A len cap ∧ xs.length = len ∧ SB w A (4 * len) (cellsE acC xs) ∧ (∀ a ∈ xs, wfI a.txn ∧ wfI a.ver ∧ a.item.size ≤ maxLen) ∧ len ≤ cap ∧ cap ≤ maxLen := by
  rcases open_slice Tryz.underlying23 h with ⟨hcs, rfl⟩ | ⟨a, len, cap, m, n, D, Pl, hcs, _, hlc, hm, hmm, rfl, hx⟩
  · obtain rfl : v = .slice none 0 0 := by simpa using hcs
    exact ⟨none, 0, 0, [], rfl, rfl, SB.empty _ _, by simp, Nat.le_refl _, by simp [maxLen]⟩
  obtain rfl : v = .slice (some a) len cap := by simpa using hcs
  have hcap : cap * 40 ≤ 140737488351232 := light_sizedS Tryz.underlying23 bytesAct hl (.inr ⟨_, _, rfl, by simp only [if_true] at hmm; subst hmm; simp; omega⟩)
  simp only [if_true] at hmm
  subst hmm
  have key : ∀ i, i < len → ∃ o : Ac, (wfI o.txn ∧ wfI o.ver ∧ o.item.size ≤ maxLen) ∧ ∀ j, j < 4 → w.cell? ((a.add (i * 4)).add j) = some ((acC o).getD j undef) := by
    intro i hi
    obtain ⟨cs', h1, h2⟩ := hx i (by omega)
    rw [cellsAct] at h1
    obtain ⟨hlen, hcell⟩ := cells_mapMS h1
    have hle : Light Tryz.prog 44 (D i) := light_elemS Tryz.underlying23 hl (List.mem_map.2 ⟨i, by simp [hi], rfl⟩)
    obtain ⟨o, ho, rfl⟩ := open_act h2 hle
    exact ⟨o, ho, fun j hj => hcell j hj⟩
  obtain ⟨f, hf⟩ := choose_lt key
  refine ⟨some a, len, m, (List.range len).map f, rfl, by simp, ⟨by rw [cellsE_len acC_len]; simp, cellsE_one acC_one _, fun hn => ?_⟩, fun o ho => ?_, hlc, by simp only [maxLen]; omega⟩
  · have h0 := (hf 0 (by omega)).2 0 (by omega)
    rw [show (a.add (0 * 4)).add 0 = a from rfl] at h0
    obtain ⟨b, o, rfl⟩ := spot_addS (spot_noneS h0)
    refine ⟨b, o, rfl, fun j u hu => ?_⟩
    have hj : j < 4 * len := by
      have := (List.getElem?_eq_some_iff.1 hu).1
      rw [cellsE_len acC_len] at this
      simpa using this
    have hi : j / 4 < len := by omega
    have := (hf (j / 4) hi).2 (j % 4) (Nat.mod_lt _ (by omega))
    rw [Addr.add_mid, Addr.add_mid, Nat.add_assoc, show j / 4 * 4 + j % 4 = j by omega] at this
    rw [this]
    obtain ⟨u', hu'⟩ : ∃ u', (acC (f (j / 4)))[j % 4]? = some u' := ⟨_, List.getElem?_eq_getElem (by rw [acC_len]; exact Nat.mod_lt _ (by omega))⟩
    have hcu := cellsE_at acC_len ((List.range len).map f) (j / 4) (f (j / 4)) (by simp [hi]) (j % 4) u' hu'
    rw [show 4 * (j / 4) + j % 4 = j by omega, hu] at hcu
    rw [List.getD_eq_getElem?_getD, hu', hcu]
    rfl
  · obtain ⟨i, hi, rfl⟩ := List.mem_map.1 ho
    exact (hf i (by simpa using hi)).1
/-- The commits as they came in. -/
theorem open_coms {H : Type} {enc : TypeId × Value → H} {w : World} {held : Bool} {fuel : Nat} {v : Value} {y : DataW H × List MemPlace} (h : DataW.trod enc Tryz.prog w 0 (fun _ => true) held fuel 22 [v] = some y) :
    ∃ A len cap zs, v = .slice A len cap ∧ zs.length = len ∧ SB w A len (numC zs) ∧ (∀ x ∈ zs, wfI x) ∧ len ≤ cap ∧ cap ≤ maxLen := by
  rcases open_ints Tryz.underlying22 Tryz.underlying3 cellsI11 h with ⟨hcs, hy⟩ | ⟨x, l, c, zs, hcs, _, hl, hm, hz, hy, hcell, hwz⟩
  · obtain rfl : v = .slice none 0 0 := by simpa using hcs
    exact ⟨none, 0, 0, [], rfl, rfl, SB.empty _ _, by simp, Nat.le_refl _, by simp [maxLen]⟩
  · obtain rfl : v = .slice (some x) l c := by simpa using hcs
    have hz' : zs.length = c := by simpa using hz
    refine ⟨some x, l, c, zs.take l, rfl, by simp; omega, ⟨by rw [numC_len]; simp; omega, numC_one _, fun hl0 => ?_⟩, fun z hzz => wfI_of (wf_i64 (hwz z (List.mem_of_mem_take hzz))), hl, hm⟩
    have h0 := hcell 0 (by omega)
    obtain ⟨b, o, rfl⟩ := spot_addS (spot_noneS h0)
    refine ⟨b, o, rfl, fun j u hu => ?_⟩
    have hj : j < l := by
      have := (List.getElem?_eq_some_iff.1 hu).1
      rw [numC_len] at this
      simp at this; omega
    have h1 := hcell j (by omega)
    rw [Addr.add_mid] at h1
    rw [h1]
    have hx : (zs.take l)[j]? = some (zs.getD j 0) := by
      rw [List.getElem?_take_of_lt hj, List.getD_eq_getElem?_getD, List.getElem?_eq_getElem (by omega)]
      rfl
    rw [numC_at hx] at hu
    exact hu
/-- A history as it came in. -/
theorem open_hist {H : Type} {enc : TypeId × Value → H} {w : World} {held : Bool} {fuel : Nat} {cs : List Value} {y : DataW H × List MemPlace} (h : DataW.trod enc Tryz.prog w 0 (fun _ => true) held fuel 25 cs = some y) (hl : Light Tryz.prog 25 y.1) :
    ∃ A n c B m d xs ac, cs = [.slice A n c, .slice B m d] ∧ Hist w A n c B m d xs ac := by
  obtain ⟨zs, k2, hcl, hzl, hD2, hf2⟩ := open_laidS Tryz.underlying25 (by kernel_rfl) (by kernel_rfl) h
  match cs, hcl, zs, hzl with
  | [g0, g1], _, [z0, z1], _ =>
    have s0 : DataW.trod enc Tryz.prog w 0 (fun _ => true) held k2 22 [g0] = some z0 := hf2 0 _ rfl
    have s1 : DataW.trod enc Tryz.prog w 0 (fun _ => true) held k2 23 [g1] = some z1 := hf2 1 _ rfl
    rw [hD2] at hl
    have l1 : Light Tryz.prog 23 z1.1 := light_field Tryz.underlying25 hl (j := 1) rfl rfl
    obtain ⟨A, n, c, xs, rfl, a1, a2, a3, a4, a5⟩ := open_coms s0
    obtain ⟨B, m, d, ac, rfl, b1, b2, b3, b4, b5⟩ := open_acts s1 l1
    exact ⟨A, n, c, B, m, d, xs, ac, rfl, a1, b1, a2, b2, a3, b3, ⟨a4, a5⟩, ⟨b4, b5⟩⟩
end Go.Proofs.YtnpeankmmojebaaGreatDoor
