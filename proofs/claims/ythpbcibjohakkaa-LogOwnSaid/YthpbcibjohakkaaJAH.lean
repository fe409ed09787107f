import Derived.Test.YthpbcibjohakkaaJAA
import Derived.ProofKit
import Derived.OpenShut
import Derived.ShutString
import Derived.ChangeOld
import Derived.SizedLaws
import Derived.Lib.SmallJoins
import Derived.Deep.Fields
import Derived.Test.YthpbcibjohakkaaRows
import Derived.Test.YthpbcibjohakkaaJAC
import Derived.Deep.Slices
import Derived.Test.YthpbcibjohakkaaJAG
/- How the arguments of a law are opened: bytes, texts, numbers, and what their sizes are. No program is named here. -/
namespace Go.Proofs.Ythpbcibjohakkaa
set_option maxRecDepth 100000
open Go.Joins Go.Deep Go.ChangeShapes Go.WideShapes Go.ChangeAt Go.RowKit

section
variable {H : Type} {enc : TypeId × Value → H} {P : Program} {w : World} {held : Bool}

theorem wf_i64 {a : Int} (h : (Lit.int .i64 a).wf = true) : -9223372036854775808 ≤ a ∧ a ≤ 9223372036854775807 := by
  simpa [Lit.wf, IntKind.min, IntKind.max, IntKind.bits, IntKind.signed] using h
theorem wf_u64 {a : Int} (h : (Lit.int .u64 a).wf = true) : 0 ≤ a ∧ a ≤ 18446744073709551615 := by
  simpa [Lit.wf, IntKind.min, IntKind.max, IntKind.bits, IntKind.signed] using h
theorem wf_u32 {a : Int} (h : (Lit.int .u32 a).wf = true) : 0 ≤ a ∧ a ≤ 4294967295 := by
  simpa [Lit.wf, IntKind.min, IntKind.max, IntKind.bits, IntKind.signed] using h
theorem wf_u8 {a : Int} (h : (Lit.int .u8 a).wf = true) : 0 ≤ a ∧ a ≤ 255 := by
  simpa [Lit.wf, IntKind.min, IntKind.max, IntKind.bits, IntKind.signed] using h

theorem open_bytes {t e : TypeId} {fuel : Nat} {v : Value} {y : DataW H × List MemPlace} (ht : P.underlying t = some (.slice e)) (he : P.underlying e = some (.int .u8)) (hc : P.cellsOf e = 1)
    (h : DataW.trod enc P w 0 (fun _ => true) held fuel t [v] = some y) :
    ∃ A len cap zs, v = .slice A len cap ∧ RB w A len zs ∧ len ≤ cap ∧ cap ≤ maxLen ∧
      ((y.1 = .nil ∧ cap = 0) ∨ ∃ elems rest, y.1 = .slice elems rest ∧ elems.length + rest.length = cap) := by
  rcases open_ints ht he hc h with ⟨hcs, hy⟩ | ⟨x, l, c, zs, hcs, _, hl, hm, hz, hy, hcell, hwz⟩
  · obtain rfl : v = .slice none 0 0 := by simpa using hcs
    exact ⟨none, 0, 0, [], rfl, RB.empty w _, Nat.le_refl _, by simp [maxLen], .inl ⟨by rw [hy], rfl⟩⟩
  · obtain rfl : v = .slice (some x) l c := by simpa using hcs
    have hz' : zs.length = c := by simpa using hz
    refine ⟨some x, l, c, zs.take l, rfl, ⟨by simp; omega, fun z hzz => ?_, fun _ => ⟨x, rfl, fun j hj => ?_⟩⟩, hl, hm, .inr ⟨_, _, by rw [hy], ?_⟩⟩
    · exact wf_u8 (hwz z (List.mem_of_mem_take hzz))
    · rw [hcell j (by omega)]
      simp [List.getD_eq_getElem?_getD, hj]
    · simp [lits]; omega

/-- A struct of one-cell fields, by value: its fields' values, and each field's reading. -/
theorem open_struct {r : Reach} {b0 : Nat} {t : TypeId} {fs : Array Field} {v : Value} {d : DataW H} {p : List MemPlace} (hs : P.underlying t = some (.struct fs)) (hone : oneCellFields P fs = true) (hC : P.cellsOf t = fs.size)
    (hv : Value.okWide P w r b0 t v) (h : DataW.Trod enc P w 0 (fun _ => true) held t v d p) :
    ∃ (vs : List Value) (ys : List (DataW H × List MemPlace)) (n : Nat), v = .agg vs.toArray ∧ vs.length = fs.size ∧ ys.length = fs.size ∧ d = .agg (ys.map (·.1)) ∧
      ∀ (j : Nat) (f : Field), fs[j]? = some f → DataW.trod enc P w 0 (fun _ => true) held n f.type [vs.getD j undef] = some (ys.getD j (.nil, [])) := by
  obtain ⟨cs, rfl, hsz⟩ := okWide_struct hs hv
  obtain ⟨fuel, hf⟩ := h
  obtain ⟨xs, n, _, hx, hcl, hlen, hg⟩ := DataW.trod_struct hs hf
  have hcl' : cs.toList.length = fs.size := by simpa [Value.cells] using hcl.trans hC
  refine ⟨cs.toList, xs, n, rfl, hcl', hlen, by rw [Prod.mk.injEq] at hx; exact hx.1, fun j f hj => ?_⟩
  obtain ⟨ho, hk⟩ := hone_of hone j f hj
  have hjl : j < fs.size := (Array.getElem?_eq_some_iff.1 hj).1
  have h1 := hg j f hj
  rw [ho, hk] at h1
  have e1 : ((Value.cells (.agg cs)).toList.drop j).take 1 = [cs.toList.getD j undef] := by
    show (cs.toList.drop j).take 1 = _
    rw [List.drop_eq_getElem_cons (by omega)]
    simp [List.getD_eq_getElem?_getD, List.getElem?_eq_getElem (show j < cs.toList.length by omega)]
  rw [e1] at h1
  rw [h1, List.getD_eq_getElem?_getD, List.getElem?_eq_getElem (show j < xs.length by omega)]
  rfl

/-- What a reading weighs is within the reach. -/
def Light (P : Program) (t : TypeId) (d : DataW H) : Prop := ∀ n ∈ d.weights P t, n ≤ reachBytes

theorem light_each {ts : List TypeId} {ds : List (DataW H)} (h : (DataW.weightsEach P ts ds).all (· ≤ reachBytes) = true) {j : Nat} {t : TypeId} {d : DataW H} (ht : ts[j]? = some t) (hd : ds[j]? = some d) : Light P t d :=
  fun n hn => by
    have := List.all_eq_true.1 h n (DataW.weights_mem_each ht hd n hn)
    simpa using this

theorem light_field {t : TypeId} {fs : Array Field} {parts : List (DataW H)} (hs : P.underlying t = some (.struct fs)) (h : Light P t (.agg parts)) {j : Nat} {t' : TypeId} {d : DataW H}
    (ht : (fs.toList.map (·.type))[j]? = some t') (hd : parts[j]? = some d) : Light P t' d :=
  fun n hn => h n (by simp only [DataW.weights, hs]; exact DataW.weights_mem_each ht hd n hn)

theorem light_bytes {t e : TypeId} {d : DataW H} {cap : Nat} (ht : P.underlying t = some (.slice e)) (hb : P.bytesOf e = 1) (h : Light P t d)
    (hd : (d = .nil ∧ cap = 0) ∨ ∃ elems rest, d = .slice elems rest ∧ elems.length + rest.length = cap) : cap ≤ 140737488351232 := by
  rcases hd with ⟨_, rfl⟩ | ⟨elems, rest, rfl, hc⟩
  · omega
  · have := h ((elems.length + rest.length) * P.bytesOf e) (by simp [DataW.weights, ht])
    rw [hb, hc] at this
    simpa [reachBytes] using this

theorem light_string {t : TypeId} {l : List UInt8} (h : Light (H := H) P t (.lit (.string l))) : l.length ≤ 140737488351232 := by
  have := h l.length (by simp [DataW.weights])
  simpa [reachBytes] using this
end

theorem open_str {H : Type} {enc : TypeId × Value → H} {P : Program} {w : World} {held : Bool} {t : TypeId} {fuel : Nat} {v : Value} {y : DataW H × List MemPlace} (ht : P.underlying t = some .string)
    (h : DataW.trod enc P w 0 (fun _ => true) held fuel t [v] = some y) : ∃ s : ByteArray, v = .string s ∧ y.1 = .lit (.string s.data.toList) := by
  obtain ⟨s, h1, h2, _⟩ := DataW.trod_string ht h
  exact ⟨s, by simpa using h1, by rw [h2]⟩
theorem open_num {H : Type} {enc : TypeId × Value → H} {P : Program} {w : World} {held : Bool} {t : TypeId} {k : IntKind} {fuel : Nat} {v : Value} {y : DataW H × List MemPlace} (ht : P.underlying t = some (.int k))
    (h : DataW.trod enc P w 0 (fun _ => true) held fuel t [v] = some y) : ∃ a, v = .int k a ∧ (Lit.int k a).wf = true := by
  obtain ⟨a, h1, h2, h3⟩ := DataW.trod_int ht h
  exact ⟨a, by simpa using h1, h3⟩
theorem open_bit {H : Type} {enc : TypeId × Value → H} {P : Program} {w : World} {held : Bool} {t : TypeId} {fuel : Nat} {v : Value} {y : DataW H × List MemPlace} (ht : P.underlying t = some .bool)
    (h : DataW.trod enc P w 0 (fun _ => true) held fuel t [v] = some y) : ∃ a, v = .bool a := by
  obtain ⟨a, h1, h2⟩ := DataW.trod_bool ht h
  exact ⟨a, by simpa using h1⟩

end Go.Proofs.Ythpbcibjohakkaa

/- How the arguments of layer 2's laws are opened: numbers in a row, operations of a script. -/
namespace Go.Proofs.Ythpbcibjohakkaa
set_option maxRecDepth 100000
open Go.Joins Go.Deep Go.ChangeShapes Go.WideShapes Go.ChangeAt Go.RowKit

/-- The slice of address A and length n reads as the numbers zs. -/
structure RI (w : World) (A : Option Addr) (n : Nat) (zs : List Int) : Prop where
  len : zs.length = n
  rng : ∀ z ∈ zs, -9223372036854775808 ≤ z ∧ z ≤ 9223372036854775807
  cell : 0 < n → ∃ b o, A = some ⟨b, o, none⟩ ∧ ∀ j, j < n → w.cell? ⟨b, o + j, none⟩ = some (.int .i64 (zs.getD j 0))
theorem RI.keep {w w' : World} {A : Option Addr} {n : Nat} {zs : List Int} (h : RI w A n zs) (hk : ∀ (p : Addr) v, w.cell? p = some v → w'.cell? p = some v) : RI w' A n zs :=
  ⟨h.len, h.rng, fun hn => by
    obtain ⟨b, o, e, hc⟩ := h.cell hn
    exact ⟨b, o, e, fun j hj => hk _ _ (hc j hj)⟩⟩
theorem RI.below {w w' : World} {A : Option Addr} {n : Nat} {zs : List Int} (h : RI w A n zs) (hb : Below w.heap.size w w') : RI w' A n zs := h.keep fun _ _ hp => keep_below hp hb

/-- One operation of a script. -/
structure OpD where
  do_ : Int
  n : Int
  A1 : Option Addr
  n1 : Nat
  c1 : Nat
  z1 : List Int
  A2 : Option Addr
  n2 : Nat
  c2 : Nat
  z2 : List Int
def OpD.cells (o : OpD) : List Value := [.int .i64 o.do_, .int .i64 o.n, .slice o.A1 o.n1 o.c1, .slice o.A2 o.n2 o.c2]
structure OpIs (w : World) (o : OpD) : Prop where
  rd : -9223372036854775808 ≤ o.do_ ∧ o.do_ ≤ 9223372036854775807
  rn : -9223372036854775808 ≤ o.n ∧ o.n ≤ 9223372036854775807
  b1 : RB w o.A1 o.n1 o.z1
  l1 : o.n1 ≤ o.c1
  m1 : o.c1 ≤ 140737488351232
  b2 : RI w o.A2 o.n2 o.z2
  l2 : o.n2 ≤ o.c2
  m2 : o.c2 ≤ 17592186043904
theorem OpIs.below {w w' : World} {o : OpD} (h : OpIs w o) (hb : Below w.heap.size w w') : OpIs w' o := ⟨h.rd, h.rn, h.b1.below' hb, h.l1, h.m1, h.b2.below hb, h.l2, h.m2⟩
/-- The slice of address A and length n is the script os. -/
structure RO (w : World) (A : Option Addr) (n : Nat) (os : List OpD) : Prop where
  len : os.length = n
  is : ∀ o ∈ os, OpIs w o
  row : 0 < n → ∃ b o, A = some ⟨b, o, none⟩ ∧ ∀ (j : Nat) (x : OpD), os[j]? = some x → w.rangeAt b (o + j * 4) x.cells
theorem rangeAt_below {w w' : World} {b o : Nat} {cs : List Value} (h : w.rangeAt b o cs) (hb : Below w.heap.size w w') : w'.rangeAt b o cs := fun j v hv => keep_below (h j v hv) hb
theorem RO.below {w w' : World} {A : Option Addr} {n : Nat} {os : List OpD} (h : RO w A n os) (hb : Below w.heap.size w w') : RO w' A n os :=
  ⟨h.len, fun o ho => (h.is o ho).below hb, fun hn => by
    obtain ⟨b, o, e, hr⟩ := h.row hn
    exact ⟨b, o, e, fun j x hx => rangeAt_below (hr j x hx) hb⟩⟩

section
variable {H : Type} {enc : TypeId × Value → H} {P : Program} {w : World} {held : Bool}

theorem spot_none {w : World} {ad : Addr} {v : Value} (hc : w.cell? ad = some v) : ad.spot = none := by
  unfold World.cell? at hc
  split at hc
  · split at hc
    · cases hc
    · rename_i hh; simpa using hh
  · cases hc
theorem spot_add {w : World} {ad : Addr} (h : ad.spot = none) : ∃ b o, ad = ⟨b, o, none⟩ := by
  obtain ⟨b, o, s⟩ := ad
  simp only at h
  subst h
  exact ⟨b, o, rfl⟩

theorem open_intsR {t e : TypeId} {fuel : Nat} {v : Value} {y : DataW H × List MemPlace} (ht : P.underlying t = some (.slice e)) (he : P.underlying e = some (.int .i64)) (hc : P.cellsOf e = 1)
    (h : DataW.trod enc P w 0 (fun _ => true) held fuel t [v] = some y) :
    ∃ A len cap zs, v = .slice A len cap ∧ RI w A len zs ∧ len ≤ cap ∧ cap ≤ maxLen ∧
      ((y.1 = .nil ∧ cap = 0) ∨ ∃ elems rest, y.1 = .slice elems rest ∧ elems.length + rest.length = cap) := by
  rcases open_ints ht he hc h with ⟨hcs, hy⟩ | ⟨x, l, c, zs, hcs, _, hl, hm, hz, hy, hcell, hwz⟩
  · obtain rfl : v = .slice none 0 0 := by simpa using hcs
    exact ⟨none, 0, 0, [], rfl, ⟨rfl, by simp, fun h => absurd h (by omega)⟩, Nat.le_refl _, by simp [maxLen], .inl ⟨by rw [hy], rfl⟩⟩
  · obtain rfl : v = .slice (some x) l c := by simpa using hcs
    have hz' : zs.length = c := by simpa using hz
    refine ⟨some x, l, c, zs.take l, rfl, ⟨by simp; omega, fun z hzz => wf_i64 (hwz z (List.mem_of_mem_take hzz)), fun hl0 => ?_⟩, hl, hm, .inr ⟨_, _, by rw [hy], ?_⟩⟩
    · have h0 := hcell 0 (by omega)
      rw [show x.add 0 = x from rfl] at h0
      obtain ⟨b, o, rfl⟩ := spot_add (w := w) (spot_none h0)
      refine ⟨b, o, rfl, fun j hj => ?_⟩
      have := hcell j (by omega)
      rw [Addr.add_mid] at this
      rw [this]
      simp [List.getD_eq_getElem?_getD, hj]
    · simp [lits]; omega

theorem light_sized {t e : TypeId} {d : DataW H} {cap b : Nat} (ht : P.underlying t = some (.slice e)) (hb : P.bytesOf e = b) (h : Light P t d)
    (hd : (d = .nil ∧ cap = 0) ∨ ∃ elems rest, d = .slice elems rest ∧ elems.length + rest.length = cap) : cap * b ≤ 140737488351232 := by
  rcases hd with ⟨_, rfl⟩ | ⟨elems, rest, rfl, hc⟩
  · omega
  · have := h ((elems.length + rest.length) * P.bytesOf e) (by simp [DataW.weights, ht])
    rw [hb, hc] at this
    simpa [reachBytes] using this
theorem weightsAll_in {e : TypeId} {d : DataW H} : ∀ {l : List (DataW H)}, d ∈ l → ∀ n ∈ d.weights P e, n ∈ DataW.weightsAll P e l
  | x :: r, hd, n, hn => by
    rw [DataW.weightsAll, List.mem_append]
    rcases List.mem_cons.1 hd with rfl | hd
    · exact .inl hn
    · exact .inr (weightsAll_in hd n hn)
theorem light_elem {t e : TypeId} {elems rest : List (DataW H)} (ht : P.underlying t = some (.slice e)) (h : Light P t (.slice elems rest)) {d : DataW H} (hd : d ∈ elems) : Light P e d :=
  fun n hn => h n (by simp only [DataW.weights, ht, List.mem_cons, List.mem_append]; exact .inr (.inl (weightsAll_in hd n hn)))

/-- A struct of one-cell fields, as it lies. -/
theorem open_laid {t : TypeId} {fs : Array Field} {m : Nat} {cs : List Value} {y : DataW H × List MemPlace} (hs : P.underlying t = some (.struct fs)) (hone : oneCellFields P fs = true) (hC : P.cellsOf t = fs.size)
    (h : DataW.trod enc P w 0 (fun _ => true) held m t cs = some y) :
    ∃ (ys : List (DataW H × List MemPlace)) (n : Nat), cs.length = fs.size ∧ ys.length = fs.size ∧ y.1 = .agg (ys.map (·.1)) ∧
      ∀ (j : Nat) (f : Field), fs[j]? = some f → DataW.trod enc P w 0 (fun _ => true) held n f.type [cs.getD j undef] = some (ys.getD j (.nil, [])) := by
  obtain ⟨xs, n, _, hx, hcl, hlen, hg⟩ := DataW.trod_struct hs h
  have hcl' : cs.length = fs.size := hcl.trans hC
  refine ⟨xs, n, hcl', hlen, by rw [hx], fun j f hj => ?_⟩
  obtain ⟨ho, hk⟩ := hone_of hone j f hj
  have hjl : j < fs.size := (Array.getElem?_eq_some_iff.1 hj).1
  have h1 := hg j f hj
  rw [ho, hk] at h1
  have e1 : (cs.drop j).take 1 = [cs.getD j undef] := by
    rw [List.drop_eq_getElem_cons (by omega), List.take_succ_cons, List.take_zero]
    simp [List.getD_eq_getElem?_getD, List.getElem?_eq_getElem (show j < cs.length by omega)]
  rw [e1] at h1
  rw [h1, List.getD_eq_getElem?_getD, List.getElem?_eq_getElem (show j < xs.length by omega)]
  rfl
end

theorem cellsInt : Try.prog.cellsOf 3 = 1 := by kernel_rfl
theorem cellsU8 : Try.prog.cellsOf 5 = 1 := by kernel_rfl
theorem bytesInt : Try.prog.bytesOf 3 = 8 := by kernel_rfl
theorem bytesU8 : Try.prog.bytesOf 5 = 1 := by kernel_rfl
theorem cells_mapM {w : World} {a : Addr} {n : Nat} {cs : List Value} (h : w.cells? 0 a n = some cs) : cs.length = n ∧ ∀ j, j < n → w.cell? (a.add j) = some (cs.getD j undef) := by
  unfold World.cells? at h
  rw [if_pos (Nat.zero_le _)] at h
  have hlen : cs.length = n := by simpa using Go.mapM_some_length h
  refine ⟨hlen, fun j hj => ?_⟩
  have := Go.mapM_some_get h j j (by simp [hj])
  rw [this, List.getD_eq_getElem?_getD, List.getElem?_eq_getElem (by omega)]
  rfl

instance : Inhabited OpD := ⟨⟨0, 0, none, 0, 0, [], none, 0, 0, []⟩⟩

end Go.Proofs.Ythpbcibjohakkaa

/- The call of Crash. -/
namespace Go.Proofs.Ythpbcibjohakkaa
set_option maxRecDepth 100000
open Go.RowKit

def keepOk (z : Int) : Prop := z = 0 ∨ z = 1 ∨ z = 2
instance (z : Int) : Decidable (keepOk z) := by unfold keepOk; infer_instance
def crashS (S : St) (ks : List Int) : St :=
  if S.pend.length < ks.length then S else if ∀ z ∈ ks, keepOk z then { S with last := layAll S.last S.pend ks, pend := [], off := false, plan := -1 } else S
def crashE (S : St) (ks : List Int) : Int := if S.pend.length < ks.length then 1 else if ∀ z ∈ ks, keepOk z then 0 else 1
theorem layAll_short : ∀ (ks : List Int) (xs : List Wr) (l : List Cn), layAll l (xs.take ks.length) ks = layAll l xs ks
  | [], xs, l => by cases xs <;> rfl
  | k :: ks, [], l => rfl
  | k :: ks, x :: xs, l => by
    show layAll (settleL l x k) (xs.take ks.length) ks = layAll (settleL l x k) xs ks
    exact layAll_short ks xs _

set_option maxHeartbeats 2000000 in
theorem dcrash {F : Nat → Prop} {w : World} {d : Nat} {S : St} (h : PD F w d S) (A : Option Addr) (n c : Nat) (ks : List Int) (hks : RI w A n ks) (hA : Far F A n) (hm : S.pend.length < 2199023255552) (hn2 : n ≤ 140737488355328) :
    Calls Try.prog 22 #[.pointer (some ⟨d, 0, none⟩), .slice A n c] w (Codes F w d (crashS S ks) (crashE S ks)) := by
  obtain ⟨nw, vl, vp, vn, h, hn⟩ := h
  have md := dmade h
  have hlen := hks.len
  have c1 := h.c1
  obtain ⟨Ap, capp, rfl, hAp⟩ := h.pgen
  unfold crashS crashE
  by_cases hl : S.pend.length < ks.length
  · rw [if_pos hl, if_pos hl]
    have HE := Lib.hid (codes (c := 1) h hn (Out.refl F w))
    have hl2 : (S.pend.length : Int) < (n : Int) := by omega
    clear h hn hl hks hlen
    go_enter Try.func22, Try.ntmps22
    go_wp2_with (go_at_call 31; refine md.mono ?_; rintro e w' ⟨rfl, rfl⟩)
    go_ret
    exact HE.out
  · rw [if_neg hl, if_neg hl]
    have hl2 : ¬ (S.pend.length : Int) < (n : Int) := by omega
    have hl3 : decide (S.pend.length < n) = false := by simp; omega
    have hl4 : decide ((S.pend.length : Int) < (n : Int)) = false := by simp; omega
    have H0 := Lib.hid h
    have HN := Lib.hid hn
    have HL := Lib.hid hlen
    clear h hn hl hlen
    by_cases hall : ∀ z ∈ ks, keepOk z
    · rw [if_pos hall, if_pos hall]
      have HALL := Lib.hid hall
      clear hall
      go_enter Try.func22, Try.ntmps22
      go_wp2_with (go_at_call 31; refine md.mono ?_; rintro e w' ⟨rfl, rfl⟩)
      clear md
      go_loopw [6, 22] (fun _ i wr => ∃ k : Nat, i = .int .i64 (k : Nat) ∧ k ≤ n ∧ w = wr ∧ ∀ j, j < k → keepOk (ks.getD j 0)) (fun _ i _ => n - (intOf i).toNat)
      case atStart => exact ⟨0, rfl, Nat.zero_le _, rfl, fun j hj => by omega⟩
      case round =>
        obtain ⟨k, rfl, hk, rfl, hok⟩ := hrel
        by_cases hlt : k < n
        · obtain ⟨b, o, rfl, hcell⟩ := hks.cell (by omega)
          have ck := hcell k hlt
          have hki : (k : Int) < (n : Int) := by omega
          obtain ⟨z, hz⟩ : ∃ z, ks.getD k 0 = z := ⟨_, rfl⟩
          have hzm : z ∈ ks := by
            have hkl : k < ks.length := by rw [HL.out]; exact hlt
            rw [← hz, List.getD_eq_getElem?_getD, List.getElem?_eq_getElem hkl]
            exact List.getElem_mem hkl
          rw [hz] at ck
          have HO := Lib.hid hok
          have HZ := Lib.hid hz
          clear hok hz hcell
          have hzk := HALL.out z hzm
          clear hzm
          have HZK := Lib.hid hzk
          rcases hzk with rfl | rfl | rfl
          all_goals
            go_wp2
            go_roundw
            case rel => exact ⟨k + 1, by go_num, hlt, by first | rfl | trivial, fun j hj => by
              rcases Nat.lt_or_ge j k with h1 | h1
              · exact HO.out j h1
              · rw [show j = k by omega, HZ.out]; exact HZK.out⟩
            case measure => simp [intOf]; omega
        · obtain rfl : k = n := by omega
          have HSH := Lib.hid (show layAll S.last (S.pend.take k) ks = layAll S.last S.pend ks by rw [← HL.out]; exact layAll_short _ _ _)
          have HKT := Lib.hid (show ks.take k = ks from List.take_of_length_le (by rw [HL.out]; exact Nat.le_refl _))
          have HPL := Lib.hid (show k ≤ S.pend.length by omega)
          clear hok
          go_wp2
          go_loopw [7, 8, 39] (fun _ _ i wr => ∃ j : Nat, i = .int .i64 (j : Nat) ∧ j ≤ k ∧ Dv F wr d { S with last := layAll S.last (S.pend.take j) (ks.take j) } nw vl (.slice Ap S.pend.length capp) vn ∧ Out F w wr) (fun _ _ i _ => k - (intOf i).toNat)
          case atStart => exact ⟨0, rfl, Nat.zero_le _, H0.out, Out.refl _ _⟩
          case round =>
            obtain ⟨j, rfl, hj, hd, ho⟩ := hrel
            by_cases hjt : j < k
            · obtain ⟨b, o, rfl, hcell⟩ := hks.cell (by omega)
              have hjp : j < S.pend.length := Nat.lt_of_lt_of_le hjt HPL.out
              obtain ⟨g, rfl⟩ := hAp (by omega)
              obtain ⟨x, hx⟩ : ∃ x, S.pend[j]? = some x := ⟨_, List.getElem?_eq_getElem hjp⟩
              obtain ⟨z, hz⟩ : ∃ z, ks[j]? = some z := ⟨_, List.getElem?_eq_getElem (by rw [HL.out]; exact hjt)⟩
              have hzk := HALL.out z (List.mem_of_getElem? hz)
              have hxm : x ∈ S.pend := List.mem_of_getElem? hx
              have hxb := hd.wf.pb x hxm
              have hxp := hd.wf.pp x hxm
              have cj : wr.cell? ⟨b, o + j, none⟩ = some (.int .i64 z) := by
                have := ho.cell (hcell j hjt) (hA ⟨b, o, none⟩ rfl (by omega))
                rw [this, List.getD_eq_getElem?_getD, hz]; rfl
              have c1w := hd.c1
              have HR := Lib.hid (hd.pendAt (x := x) hx)
              have HI := Lib.hid (show (Try.prog.info? 81).map (·.size) = some x.cells.length by rw [Wr.len hxb]; rfl)
              have se := dsettle hd x hxb hxp z hzk
              have HLA := Lib.hid (show settleL (layAll S.last (S.pend.take j) (ks.take j)) x z = layAll S.last (S.pend.take (j + 1)) (ks.take (j + 1)) by
                rw [List.take_add_one, List.take_add_one, hx, hz]
                exact (layAll_snoc _ _ _ _ _ (by simp [HL.out]; omega)).symm)
              have O2 := Lib.hid ho
              have hji : (j : Int) < (k : Int) := by omega
              have hji2 : (j : Int) < (S.pend.length : Int) := by omega
              clear hd ho hxm hxp hx hcell hz hzk
              go_wp2_with (first
                | (with_reducible refine wpList_load_mid rfl 81 (.tmp 50) rfl g (j * 65) rfl x.cells _ HR.out Try.underlying81 rfl HI.out ?_)
                | (go_at_call 40; refine se.mono ?_; rintro e w3 ⟨rfl, h3, o3⟩; have H3 := Lib.hid h3; have O3 := Lib.hid o3; clear h3 o3))
              go_roundw
              case rel =>
                have h3 := H3.out
                rw [HLA.out] at h3
                exact ⟨j + 1, by go_num, hjt, h3, O2.out.then O3.out⟩
              case measure => simp [intOf]; omega
            · obtain rfl : j = k := by omega
              rw [HKT.out, HSH.out] at hd
              have fg := dforget hd (by show S.pend.length ≤ _; omega)
              have HN2 := Lib.hid (nwok_none (S' := { S with last := layAll S.last S.pend ks, pend := [], off := false, plan := -1 }) HN.out (layAll_len _ _ _) rfl)
              have O2 := Lib.hid ho
              clear hd ho
              go_wp2_with (go_at_call 41; refine fg.mono ?_; rintro e w4 ⟨rfl, h4, o4⟩; have c3 := h4.c3; have f3 := h4.frozen 3; have c4 := h4.c4; have f4 := h4.frozen 4; have H4 := Lib.hid ((h4.setOff false).setPlan (-1) (by omega)); have O4 := Lib.hid (((O2.out.then o4).setCell (p := ⟨d, 3, none⟩) (.inl h4.fd) (.bool false)).setCell (p := ⟨d, 4, none⟩) (.inl h4.fd) (.int .i64 (-1))); clear h4 o4)
              go_ret
              exact codes H4.out HN2.out O4.out
    · rw [if_neg hall, if_neg hall]
      have HE := Lib.hid (codes (c := 1) H0.out HN.out (Out.refl F w))
      have HALL := Lib.hid hall
      clear hall
      go_enter Try.func22, Try.ntmps22
      go_wp2_with (go_at_call 31; refine md.mono ?_; rintro e w' ⟨rfl, rfl⟩)
      clear md
      go_loopw [6, 22] (fun _ i wr => ∃ k : Nat, i = .int .i64 (k : Nat) ∧ k ≤ n ∧ w = wr ∧ ∀ j, j < k → keepOk (ks.getD j 0)) (fun _ i _ => n - (intOf i).toNat)
      case atStart => exact ⟨0, rfl, Nat.zero_le _, rfl, fun j hj => by omega⟩
      case round =>
        obtain ⟨k, rfl, hk, rfl, hok⟩ := hrel
        by_cases hlt : k < n
        · obtain ⟨b, o, rfl, hcell⟩ := hks.cell (by omega)
          have ck := hcell k hlt
          have hki : (k : Int) < (n : Int) := by omega
          obtain ⟨z, hz⟩ : ∃ z, ks.getD k 0 = z := ⟨_, rfl⟩
          have hzm : z ∈ ks := by
            have hkl : k < ks.length := by rw [HL.out]; exact hlt
            rw [← hz, List.getD_eq_getElem?_getD, List.getElem?_eq_getElem hkl]
            exact List.getElem_mem hkl
          rw [hz] at ck
          have HO := Lib.hid hok
          have HZ := Lib.hid hz
          clear hok hz hcell
          clear hzm
          by_cases hzk : keepOk z
          · have HZK := Lib.hid hzk
            rcases hzk with rfl | rfl | rfl
            all_goals
              go_wp2
              go_roundw
              case rel => exact ⟨k + 1, by go_num, hlt, by first | rfl | trivial, fun j hj => by
                rcases Nat.lt_or_ge j k with h1 | h1
                · exact HO.out j h1
                · rw [show j = k by omega, HZ.out]; exact HZK.out⟩
              case measure => simp [intOf]; omega
          · have z0 : (z != 0) = true := by simp; rintro rfl; exact hzk (.inl rfl)
            have z1 : (z != 1) = true := by simp; rintro rfl; exact hzk (.inr (.inl rfl))
            have z2 : (z != 2) = true := by simp; rintro rfl; exact hzk (.inr (.inr rfl))
            clear hzk
            go_wp2
            go_ret
            exact HE.out
        · obtain rfl : k = n := by omega
          exact absurd (fun z hz => by
            obtain ⟨j, hj⟩ := List.getElem?_of_mem hz
            have hjl : j < ks.length := (List.getElem?_eq_some_iff.1 hj).1
            have := hok j (by rw [HL.out] at hjl; exact hjl)
            rw [List.getD_eq_getElem?_getD, hj] at this
            exact this) HALL.out
end Go.Proofs.Ythpbcibjohakkaa
