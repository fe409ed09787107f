import Derived.Test.YtnpeankmmojebaaGreatDoorSRow
import Derived.Test.YtnpeankmmojebaaGreatDoorJAC
import Derived.Test.YtnpeankmmojebaaGreatDoorSMap
/- Layer 11: histories as plain lists: places, writers, which histories are right, the next version, the dependencies. -/
set_option linter.unusedVariables false
namespace Go.Proofs.YtnpeankmmojebaaGreatDoor
set_option maxRecDepth 100000
set_option maxRecDepth 100000

/-- An act. -/
structure Ac where
  txn : Int
  wr : Bool
  item : ByteArray
  ver : Int
/-- A dependency. -/
structure Dp where
  fr : Int
  to : Int
  kd : Int
deriving DecidableEq
theorem Dp.ext' {a b : Dp} (h1 : a.fr = b.fr) (h2 : a.to = b.to) (h3 : a.kd = b.kd) : a = b := by
  cases a; cases b; simp_all

/-- Where a number stands; -1: nowhere. -/
def plcP (l : List Int) (n : Int) : Int := if n ∈ l then (l.idxOf n : Nat) else -1
theorem plcP_at {l : List Int} {n : Int} (h : n ∈ l) : l[l.idxOf n]? = some n := by
  rw [List.getElem?_eq_getElem (List.idxOf_lt_length_of_mem h), List.getElem_idxOf]
theorem idx_of {l : List Int} (hd : l.Nodup) {i : Nat} {n : Int} (h : l[i]? = some n) : l.idxOf n = i := by
  obtain ⟨hi, e⟩ := List.getElem?_eq_some_iff.1 h
  rw [← e]
  exact List.Nodup.idxOf_getElem hd i hi
theorem plcP_of {l : List Int} (hd : l.Nodup) {i : Nat} {n : Int} (h : l[i]? = some n) : plcP l n = (i : Int) := by
  unfold plcP
  rw [if_pos (List.mem_of_getElem? h), idx_of hd h]
theorem plcP_neg {l : List Int} {n : Int} : plcP l n < 0 ↔ n ∉ l := by
  unfold plcP
  split <;> rename_i h <;> simp [h] <;> omega
theorem plcP_first {l : List Int} {n : Int} {i : Nat} (h : l[i]? = some n) (hf : ∀ x ∈ l.take i, x ≠ n) : plcP l n = (i : Int) := by
  unfold plcP
  rw [if_pos (List.mem_of_getElem? h)]
  obtain ⟨hi, e⟩ := List.getElem?_eq_some_iff.1 h
  have h1 : l.idxOf n ≤ i := by
    rcases Nat.lt_or_ge i (l.idxOf n) with h2 | h2
    · have := List.not_of_lt_findIdx h2
      rw [e] at this; simp at this
    · exact h2
  have h2 : ¬ l.idxOf n < i := fun h2 => by
    refine hf n ?_ rfl
    have h3 := plcP_at (List.mem_of_getElem? h)
    exact List.mem_of_getElem? (i := l.idxOf n) (by rw [List.getElem?_take, if_pos h2]; exact h3)
  have : l.idxOf n = i := by omega
  rw [this]

/-- An act is a write of an item by a transaction. -/
def wrB (t : Int) (it : ByteArray) (a : Ac) : Bool := a.wr && decide (a.txn = t) && decide (a.item = it)
def writesP (ac : List Ac) (t : Int) (it : ByteArray) : Bool := ac.any (wrB t it)
theorem wrB_is {t : Int} {it : ByteArray} {a : Ac} : wrB t it a = true ↔ a.wr = true ∧ a.txn = t ∧ a.item = it := by simp [wrB, and_assoc]
theorem writesP_is {ac : List Ac} {t : Int} {it : ByteArray} : writesP ac t it = true ↔ ∃ a ∈ ac, a.wr = true ∧ a.txn = t ∧ a.item = it := by
  unfold writesP
  rw [List.any_eq_true]
  exact ⟨fun ⟨a, h, k⟩ => ⟨a, h, wrB_is.1 k⟩, fun ⟨a, h, k⟩ => ⟨a, h, wrB_is.2 k⟩⟩

/-- A history is right. -/
structure Right (cs : List Int) (ac : List Ac) : Prop where
  la : ac.length ≤ 4096
  lc : cs.length ≤ 4096
  nd : cs.Nodup
  pos : ∀ n ∈ cs, 1 ≤ n
  txn : ∀ a ∈ ac, a.txn ∈ cs
  rd : ∀ a ∈ ac, a.wr = false → a.ver = 0 ∨ a.ver ∈ cs ∧ writesP ac a.ver a.item = true
  wv : ∀ a ∈ ac, a.wr = true → a.ver = 0
  once : ∀ i a, ac[i]? = some a → a.wr = true → (ac.take i).any (wrB a.txn a.item) = false

/-- What the reference asks of the act at a place. -/
def actP (cs : List Int) (ac : List Ac) (i : Nat) (a : Ac) : Bool :=
  !decide (plcP cs a.txn < 0) && if a.wr then !(ac.take i).any (wrB a.txn a.item) && decide (a.ver = 0)
    else decide (a.ver = 0) || (decide (0 ≤ plcP cs a.ver) && writesP ac a.ver a.item)
def actsOk (cs : List Int) (ac : List Ac) (j : Nat) : Prop := ∀ i a, i < j → ac[i]? = some a → actP cs ac i a = true
def comOk (cs : List Int) (j : Nat) : Prop := ∀ i n, i < j → cs[i]? = some n → 1 ≤ n ∧ plcP cs n = (i : Int)
theorem right_iff {cs : List Int} {ac : List Ac} : Right cs ac ↔ ac.length ≤ 4096 ∧ cs.length ≤ 4096 ∧ comOk cs cs.length ∧ actsOk cs ac ac.length := by
  constructor
  · intro h
    refine ⟨h.la, h.lc, fun i n _ hn => ⟨h.pos n (List.mem_of_getElem? hn), plcP_of h.nd hn⟩, fun i a _ ha => ?_⟩
    have hm := List.mem_of_getElem? ha
    have h1 : ¬ plcP cs a.txn < 0 := fun h0 => plcP_neg.1 h0 (h.txn a hm)
    unfold actP
    rw [show decide (plcP cs a.txn < 0) = false by simpa using h1]
    cases hw : a.wr
    · rcases h.rd a hm hw with h2 | ⟨h2, h3⟩
      · simp [h2]
      · have h4 : ¬ plcP cs a.ver < 0 := fun h0 => plcP_neg.1 h0 h2
        have h5 : 0 ≤ plcP cs a.ver := by omega
        simp [h3, h5]
    · simp [h.once i a ha hw, h.wv a hm hw]
  · rintro ⟨h1, h2, h3, h4⟩
    have ht : ∀ a ∈ ac, a.txn ∈ cs ∧ ∃ i, ac[i]? = some a ∧ actP cs ac i a = true := fun a ha => by
      obtain ⟨i, hi⟩ := List.mem_iff_getElem?.1 ha
      have h5 := h4 i a (List.getElem?_eq_some_iff.1 hi).1 hi
      refine ⟨?_, i, hi, h5⟩
      rcases Classical.em (a.txn ∈ cs) with h6 | h6
      · exact h6
      · have h7 := plcP_neg.2 h6
        unfold actP at h5
        simp [h7] at h5
    refine ⟨h1, h2, ?_, fun n hn => ?_, fun a ha => (ht a ha).1, fun a ha hw => ?_, fun a ha hw => ?_, fun i a ha hw => ?_⟩
    · rw [List.nodup_iff_pairwise_ne, List.pairwise_iff_getElem]
      intro i j hi hj hij e
      have e1 := (h3 i cs[i] hi (List.getElem?_eq_getElem hi)).2
      have e2 := (h3 j cs[j] hj (List.getElem?_eq_getElem hj)).2
      rw [e] at e1; omega
    · obtain ⟨i, hi⟩ := List.mem_iff_getElem?.1 hn
      exact (h3 i n (List.getElem?_eq_some_iff.1 hi).1 hi).1
    · obtain ⟨-, i, hi, h5⟩ := ht a ha
      unfold actP at h5
      rw [hw] at h5
      simp only [Bool.false_eq_true, if_false, Bool.and_eq_true, Bool.or_eq_true, decide_eq_true_eq] at h5
      rcases h5.2 with h6 | ⟨h6, h7⟩
      · exact .inl h6
      · refine .inr ⟨?_, h7⟩
        rcases Classical.em (a.ver ∈ cs) with h8 | h8
        · exact h8
        · have := plcP_neg.2 h8; omega
    · obtain ⟨-, i, hi, h5⟩ := ht a ha
      unfold actP at h5
      rw [hw] at h5
      simp at h5
      exact h5.2.2
    · have h5 := h4 i a (List.getElem?_eq_some_iff.1 ha).1 ha
      unfold actP at h5
      rw [hw] at h5
      simp only [if_true, Bool.and_eq_true, Bool.not_eq_true', decide_eq_true_eq] at h5
      exact h5.2.1
open Classical in
noncomputable def okB (cs : List Int) (ac : List Ac) : Bool := decide (Right cs ac)

/-- The transaction that writes the version of an item behind one; 0: none does. -/
def nextP (cs : List Int) (ac : List Ac) (it : ByteArray) (v : Int) : Int :=
  ((cs.drop (if v = 0 then 0 else (plcP cs v + 1).toNat)).find? fun n => writesP ac n it).getD 0
def lessD (a b : Dp) : Bool := if a.fr = b.fr then (if a.to = b.to then decide (a.kd < b.kd) else decide (a.to < b.to)) else decide (a.fr < b.fr)
theorem lessD_irr (a : Dp) : lessD a a = false := by simp [lessD]
theorem lessD_tr (a b c : Dp) (h1 : lessD a b = true) (h2 : lessD b c = true) : lessD a c = true := by
  unfold lessD at *
  split at h1 <;> split at h2 <;> try split at h1
  all_goals (try split at h2)
  all_goals simp only [decide_eq_true_eq] at h1 h2
  all_goals (split <;> try split)
  all_goals first | (simp only [decide_eq_true_eq]; omega) | omega
theorem lessD_tri (a b : Dp) (h1 : lessD a b = false) (h2 : lessD b a = false) : a = b := by
  unfold lessD at *
  split at h1 <;> split at h2 <;> try split at h1
  all_goals (try split at h2)
  all_goals simp only [decide_eq_false_iff_not] at h1 h2
  all_goals first | (exfalso; omega) | exact Dp.ext' (by omega) (by omega) (by omega)
theorem lessD_asy (a b : Dp) (h : lessD a b = true) : lessD b a = false := by
  cases h2 : lessD b a
  · rfl
  · have := lessD_tr _ _ _ h h2
    rw [lessD_irr] at this; cases this
def plD (l : List Dp) (d : Dp) : Nat := (l.takeWhile (lessD · d)).length
def insD (l : List Dp) (d : Dp) : List Dp := l.take (plD l d) ++ [d] ++ l.drop (plD l d)
def putD (l : List Dp) (d : Dp) : List Dp := if d.fr = 0 ∨ d.to = 0 ∨ d.fr = d.to ∨ l[plD l d]? = some d then l else insD l d
theorem plD_le (l : List Dp) (d : Dp) : plD l d ≤ l.length := (List.takeWhile_prefix _).length_le
theorem plD_below : ∀ (l : List Dp) (x : Dp) (j : Nat) (a : Dp), j < plD l x → l[j]? = some a → lessD a x = true
  | [], x, j, a, h, _ => by simp [plD] at h
  | b :: l, x, j, a, h, ha => by
    unfold plD at h
    by_cases hb : lessD b x = true
    · rw [List.takeWhile_cons_of_pos (p := (lessD · x)) hb] at h
      cases j with
      | zero => cases ha; exact hb
      | succ j => exact plD_below l x j a (by simpa [plD] using h) ha
    · rw [List.takeWhile_cons_of_neg (p := (lessD · x)) hb] at h
      simp at h
theorem plD_at : ∀ (l : List Dp) (x a : Dp), l[plD l x]? = some a → lessD a x = false
  | [], x, a, h => by simp [plD] at h
  | b :: l, x, a, h => by
    unfold plD at h
    by_cases hb : lessD b x = true
    · rw [List.takeWhile_cons_of_pos (p := (lessD · x)) hb] at h
      exact plD_at l x a (by simpa [plD] using h)
    · rw [List.takeWhile_cons_of_neg (p := (lessD · x)) hb] at h
      simp at h; subst h; simpa using hb
/-- Where the search stands still. -/
theorem plD_stop {l : List Dp} {x : Dp} {j : Nat} (h1 : ∀ i a, i < j → l[i]? = some a → lessD a x = true) (h2 : j ≤ l.length) (h3 : ∀ a, l[j]? = some a → lessD a x = false) : plD l x = j := by
  rcases Nat.lt_trichotomy (plD l x) j with h | h | h
  · obtain ⟨a, ha⟩ : ∃ a, l[plD l x]? = some a := ⟨_, List.getElem?_eq_getElem (by omega)⟩
    have h4 := plD_at l x a ha
    rw [h1 _ a h ha] at h4; cases h4
  · exact h
  · have hj : j < l.length := by have := plD_le l x; omega
    obtain ⟨a, ha⟩ : ∃ a, l[j]? = some a := ⟨_, List.getElem?_eq_getElem hj⟩
    have h4 := plD_below l x j a h ha
    rw [h3 a ha] at h4; cases h4
def okD (d : Dp) : Prop := d.fr ≠ 0 ∧ d.to ≠ 0 ∧ d.fr ≠ d.to
theorem putD_is {l : List Dp} {d : Dp} (h : l.Pairwise (lessD · · = true)) : (putD l d).Pairwise (lessD · · = true) ∧ ∀ y, y ∈ putD l d ↔ y ∈ l ∨ y = d ∧ okD d := by
  unfold putD
  split
  · rename_i hx
    refine ⟨h, fun y => ⟨.inl, ?_⟩⟩
    rintro (hy | ⟨rfl, k1, k2, k3⟩)
    · exact hy
    · rcases hx with hx | hx | hx | hx
      · exact absurd hx k1
      · exact absurd hx k2
      · exact absurd hx k3
      · exact List.mem_of_getElem? hx
  · rename_i hx
    have hok : okD d := ⟨fun e => hx (.inl e), fun e => hx (.inr (.inl e)), fun e => hx (.inr (.inr (.inl e)))⟩
    have hxx : l[plD l d]? ≠ some d := fun e => hx (.inr (.inr (.inr e)))
    have hne : ∀ y ∈ l, y ≠ d := by
      rintro y hy rfl
      obtain ⟨k, hk⟩ := List.mem_iff_getElem?.1 hy
      have hkl := (List.getElem?_eq_some_iff.1 hk).1
      rcases Nat.lt_trichotomy k (plD l y) with h1 | h1 | h1
      · have := plD_below l y k y h1 hk; rw [lessD_irr] at this; cases this
      · rw [h1] at hk; exact hxx hk
      · have hp : plD l y < l.length := by omega
        obtain ⟨z, hz⟩ : ∃ z, l[plD l y]? = some z := ⟨_, List.getElem?_eq_getElem hp⟩
        have h2 := plD_at l y z hz
        have h4 := List.pairwise_iff_getElem.1 h _ _ hp hkl h1
        rw [List.getElem?_eq_getElem hp] at hz
        rw [List.getElem?_eq_getElem hkl] at hk
        cases hz; cases hk
        rw [h4] at h2; cases h2
    refine ⟨ins_strict (lt := lessD) lessD_tr lessD_tri h hne, fun y => ?_⟩
    unfold insD
    rw [ins_mem]
    exact ⟨fun e => e.imp id fun e => ⟨e, hok⟩, fun e => e.imp id (·.1)⟩
theorem putD_len (l : List Dp) (d : Dp) : (putD l d).length ≤ l.length + 1 := by
  unfold putD insD
  have := plD_le l d
  split <;> simp; omega
/-- What an act may add. -/
def depsA (cs : List Int) (ac : List Ac) (a : Ac) : List Dp :=
  if a.wr then [⟨a.txn, nextP cs ac a.item a.txn, 2⟩] else if a.ver = a.txn then [] else [⟨a.ver, a.txn, 1⟩, ⟨a.txn, nextP cs ac a.item a.ver, 3⟩]
def stepG (cs : List Int) (ac : List Ac) (l : List Dp) (a : Ac) : List Dp := (depsA cs ac a).foldl putD l
def graphP (cs : List Int) (ac : List Ac) : List Dp := ac.foldl (stepG cs ac) []
theorem putD_fold : ∀ (ds l : List Dp), l.Pairwise (lessD · · = true) → (ds.foldl putD l).Pairwise (lessD · · = true) ∧ ∀ y, y ∈ ds.foldl putD l ↔ y ∈ l ∨ y ∈ ds ∧ okD y
  | [], l, h => ⟨h, fun y => by simp⟩
  | d :: ds, l, h => by
    obtain ⟨i1, i2⟩ := putD_is (d := d) h
    obtain ⟨j1, j2⟩ := putD_fold ds _ i1
    refine ⟨j1, fun y => ?_⟩
    rw [List.foldl_cons, j2, i2, List.mem_cons]
    constructor
    · rintro ((h | ⟨rfl, h⟩) | ⟨h, k⟩)
      · exact .inl h
      · exact .inr ⟨.inl rfl, h⟩
      · exact .inr ⟨.inr h, k⟩
    · rintro (h | ⟨rfl | h, k⟩)
      · exact .inl (.inl h)
      · exact .inl (.inr ⟨rfl, k⟩)
      · exact .inr ⟨h, k⟩
theorem graph_fold (cs : List Int) (ac : List Ac) : ∀ (bs : List Ac) (l : List Dp), l.Pairwise (lessD · · = true) → (bs.foldl (stepG cs ac) l).Pairwise (lessD · · = true) ∧ ∀ y, y ∈ bs.foldl (stepG cs ac) l ↔ y ∈ l ∨ (∃ a ∈ bs, y ∈ depsA cs ac a) ∧ okD y
  | [], l, h => ⟨h, fun y => by simp⟩
  | b :: bs, l, h => by
    obtain ⟨i1, i2⟩ := putD_fold (depsA cs ac b) l h
    obtain ⟨j1, j2⟩ := graph_fold cs ac bs _ i1
    refine ⟨j1, fun y => ?_⟩
    show y ∈ bs.foldl (stepG cs ac) ((depsA cs ac b).foldl putD l) ↔ _
    rw [j2, i2]
    constructor
    · rintro ((h | ⟨h, k⟩) | ⟨⟨a, h, k⟩, m⟩)
      · exact .inl h
      · exact .inr ⟨⟨b, List.mem_cons_self .., h⟩, k⟩
      · exact .inr ⟨⟨a, List.mem_cons_of_mem _ h, k⟩, m⟩
    · rintro (h | ⟨⟨a, h, k⟩, m⟩)
      · exact .inl (.inl h)
      · rcases List.mem_cons.1 h with rfl | h
        · exact .inl (.inr ⟨k, m⟩)
        · exact .inr ⟨⟨a, h, k⟩, m⟩
theorem graph_is (cs : List Int) (ac : List Ac) : (graphP cs ac).Pairwise (lessD · · = true) ∧ ∀ y, y ∈ graphP cs ac ↔ (∃ a ∈ ac, y ∈ depsA cs ac a) ∧ okD y := by
  obtain ⟨h1, h2⟩ := graph_fold cs ac ac [] List.Pairwise.nil
  exact ⟨h1, fun y => by unfold graphP; rw [h2]; simp⟩
theorem graph_next {cs : List Int} {ac : List Ac} {j : Nat} {a : Ac} (h : ac[j]? = some a) : (ac.take (j + 1)).foldl (stepG cs ac) [] = stepG cs ac ((ac.take j).foldl (stepG cs ac) []) a := by
  rw [List.take_add_one, h, Option.toList_some, List.foldl_append]
  rfl
theorem stepG_len (cs : List Int) (ac : List Ac) (l : List Dp) (a : Ac) : (stepG cs ac l a).length ≤ l.length + 2 := by
  unfold stepG depsA
  split
  · exact Nat.le_trans (putD_len _ _) (by omega)
  · split
    · simp
    · have h1 := putD_len l ⟨a.ver, a.txn, 1⟩
      have h2 := putD_len (putD l ⟨a.ver, a.txn, 1⟩) ⟨a.txn, nextP cs ac a.item a.ver, 3⟩
      simp only [List.foldl_cons, List.foldl_nil]
      omega
theorem graph_len (cs : List Int) (ac : List Ac) : ∀ (bs : List Ac) (l : List Dp), (bs.foldl (stepG cs ac) l).length ≤ l.length + 2 * bs.length
  | [], l => by simp
  | b :: bs, l => by
    have h1 := graph_len cs ac bs (stepG cs ac l b)
    have h2 := stepG_len cs ac l b
    simp only [List.foldl_cons, List.length_cons]
    omega
end Go.Proofs.YtnpeankmmojebaaGreatDoor

/- Layer 11: maps whose keys are numbers (int) or versions (an item and a number). -/
namespace Go.Proofs.YtnpeankmmojebaaGreatDoor
set_option maxRecDepth 100000
set_option maxRecDepth 100000
open Go.RowKit Go.Maps Go.ChangeMaps Go.MapKept

/-- Numbers of type int as keys. -/
def KN : KT Int 3 where
  enc := .int .i64
  lit := .int .i64
  ok x := (Lit.int .i64 x).wf = true
  law := int_keyed Tryz.underlying3
  key {x} h := by simp [keyOf, Tryz.underlying3, mapKey, h]
  inv {v kl} h := by
    obtain ⟨x, h1, h2, h3⟩ := Maps.keyOf_int_inv Tryz.underlying3 h
    exact ⟨x, h1, h3, h2⟩
  inj _ _ h := by simpa using h
  eni h := by simpa using h
  isk _ := trivial
/-- Texts as keys. -/
def KT11 : KT ByteArray 9 where
  enc := .string
  lit s := .string s.data.toList
  ok s := s.size ≤ maxLen
  law := string_keyed Tryz.underlying9
  key {x} h := by simp [keyOf, Tryz.underlying9, mapKey, h]
  inv {v kl} h := by
    cases v <;> simp [keyOf, Tryz.underlying9, mapKey] at h
    exact ⟨_, rfl, h.1, h.2.symm⟩
  inj {a b} _ _ h := by
    obtain ⟨a⟩ := a
    obtain ⟨b⟩ := b
    simp only [Lit.string.injEq] at h
    exact congrArg ByteArray.mk (Array.toList_inj.1 h)
  eni h := by simpa using h
  isk _ := trivial
/-- A version: an item and who wrote it. -/
abbrev Vr := ByteArray × Int
def vrV (l : Vr) : Value := .agg #[.string l.1, .int .i64 l.2]
def vrLit (l : Vr) : Lit := .string (keyBytes [.string l.1.data.toList, .int .i64 l.2])
def SzV (l : Vr) : Prop := l.1.size ≤ maxLen ∧ (Lit.int .i64 l.2).wf = true
theorem keyOf_vr {l : Vr} (h : SzV l) : keyOf Tryz.prog 94 (vrV l) = some (vrLit l) := by
  have hs : Tryz.prog.underlying 94 = some (.struct (Tryz.prog.fieldsOf 94)) := by kernel_rfl
  have hk : Tryz.prog.keyType 94 = true := by kernel_rfl
  have hc : Tryz.prog.cellsOf 94 = 2 := by kernel_rfl
  have hc1 : Tryz.prog.cellsOf 9 = 1 := by kernel_rfl
  have hc2 : Tryz.prog.cellsOf 3 = 1 := by kernel_rfl
  have hn : (Tryz.prog.fieldsOf 94).all (·.name != "_") = true := by kernel_rfl
  have hf : (Tryz.prog.fieldsOf 94).toList.map (fun f => (f.type, f.offset)) = [(9, 0), (3, 1)] := by kernel_rfl
  obtain ⟨n, hsz⟩ : ∃ n, Tryz.prog.types.size = n + 1 := ⟨Tryz.prog.types.size - 1, by have : 0 < Tryz.prog.types.size := of_decide_eq_true (by kernel_rfl); omega⟩
  have hw : (vrV l).formed Tryz.prog 94 = true := by simp [vrV, Value.formed, hs, hc]
  have hl : Tryz.prog.keyLits (Tryz.prog.types.size + 1) 94 (vrV l).cells.toList = some [.string l.1.data.toList, .int .i64 l.2] := by
    rw [hsz]
    unfold Program.keyLits
    rw [hs]
    simp only [vrV, Value.cells, List.length_cons, List.length_nil, hc, hn]
    generalize (Tryz.prog.fieldsOf 94).toList = fs at hf
    obtain ⟨f, fs1, rfl, hf1, hf⟩ := List.map_eq_cons_iff.1 hf
    obtain ⟨g, fs2, rfl, hg1, hf⟩ := List.map_eq_cons_iff.1 hf
    have : fs2 = [] := by simpa using hf
    subst this
    simp only [Prod.mk.injEq] at hf1 hg1
    obtain ⟨f2, f3⟩ := hf1
    obtain ⟨g2, g3⟩ := hg1
    have k1 : ∀ s : ByteArray, s.size ≤ maxLen → Tryz.prog.keyLits (n + 1) 9 [.string s] = some [.string s.data.toList] := fun s h => by
      unfold Program.keyLits
      rw [Tryz.underlying9]
      simp [h]
    have k2 : ∀ x : Int, (Lit.int .i64 x).wf = true → Tryz.prog.keyLits (n + 1) 3 [.int .i64 x] = some [.int .i64 x] := fun x h => by
      unfold Program.keyLits
      rw [Tryz.underlying3]
      simp [h]
    simp [f2, f3, g2, g3, hc1, hc2, k1 _ h.1, k2 _ h.2]
  unfold keyOf
  rw [hs]
  simp only [hk, hw, hl, Bool.and_self, if_true, Option.map_some]
  rfl
theorem lawVr : Keyed Tryz.prog 94 := Keyed.of_law (deep_law_laid (by kernel_rfl) (m := 3) (by omega) (of_decide_eq_true (by kernel_rfl)) (by kernel_rfl) (by kernel_rfl))
theorem vrV_inj {a b : Vr} (h : vrV a = vrV b) : a = b := by
  unfold vrV at h
  simp only [Value.agg.injEq, Array.mk.injEq, List.cons.injEq, Value.string.injEq, Value.int.injEq, true_and, and_true] at h
  exact Prod.ext h.1 h.2
theorem vrLit_inj {a b : Vr} (ha : SzV a) (hb : SzV b) (h : vrLit a = vrLit b) : a = b := by
  have h1 := keyOf_vr ha
  have h2 := keyOf_vr hb
  rw [h] at h1
  exact vrV_inj (lawVr.inj h1 h2)
theorem keyOf_vr_inv {v : Value} {kl : Lit} (h : keyOf Tryz.prog 94 v = some kl) : ∃ l, v = vrV l ∧ SzV l ∧ kl = vrLit l := by
  have hs : Tryz.prog.underlying 94 = some (.struct (Tryz.prog.fieldsOf 94)) := by kernel_rfl
  have hk : Tryz.prog.keyType 94 = true := by kernel_rfl
  have hc : Tryz.prog.cellsOf 94 = 2 := by kernel_rfl
  have hc1 : Tryz.prog.cellsOf 9 = 1 := by kernel_rfl
  have hc2 : Tryz.prog.cellsOf 3 = 1 := by kernel_rfl
  have hn : (Tryz.prog.fieldsOf 94).all (·.name != "_") = true := by kernel_rfl
  have hf : (Tryz.prog.fieldsOf 94).toList.map (fun f => (f.type, f.offset)) = [(9, 0), (3, 1)] := by kernel_rfl
  obtain ⟨n, hsz⟩ : ∃ n, Tryz.prog.types.size = n + 1 := ⟨Tryz.prog.types.size - 1, by have : 0 < Tryz.prog.types.size := of_decide_eq_true (by kernel_rfl); omega⟩
  have h0 := h
  unfold keyOf at h
  rw [hs] at h
  simp only [hk, Bool.true_and] at h
  split at h
  · rename_i hw
    obtain ⟨c0, c1, rfl⟩ : ∃ c0 c1, v = .agg #[c0, c1] := by
      unfold Value.formed at hw
      rw [hs] at hw
      cases v <;> simp [hc] at hw
      rename_i cs
      obtain ⟨l⟩ := cs
      match l, hw with
      | [a, b], _ => exact ⟨a, b, rfl⟩
    have k1 : ∀ (c : Value) x, Tryz.prog.keyLits (n + 1) 9 [c] = some x → ∃ s : ByteArray, c = .string s ∧ s.size ≤ maxLen := fun c x hx => by
      unfold Program.keyLits at hx
      rw [Tryz.underlying9] at hx
      cases c <;> simp at hx
      exact ⟨_, rfl, hx.1⟩
    have k2 : ∀ (c : Value) x, Tryz.prog.keyLits (n + 1) 3 [c] = some x → ∃ z : Int, c = .int .i64 z ∧ (Lit.int .i64 z).wf = true := fun c x hx => by
      unfold Program.keyLits at hx
      rw [Tryz.underlying3] at hx
      cases c <;> simp at hx
      rename_i q z
      obtain ⟨⟨rfl, h1⟩, -⟩ := hx
      exact ⟨_, rfl, h1⟩
    rw [hsz] at h
    unfold Program.keyLits at h
    rw [hs] at h
    simp only [Value.cells, List.length_cons, List.length_nil, hc, hn] at h
    generalize (Tryz.prog.fieldsOf 94).toList = fs at hf h
    obtain ⟨f, fs1, rfl, hf1, hf⟩ := List.map_eq_cons_iff.1 hf
    obtain ⟨g, fs2, rfl, hg1, hf⟩ := List.map_eq_cons_iff.1 hf
    have : fs2 = [] := by simpa using hf
    subst this
    simp only [Prod.mk.injEq] at hf1 hg1
    obtain ⟨f2, f3⟩ := hf1
    obtain ⟨g2, g3⟩ := hg1
    cases e1 : Tryz.prog.keyLits (n + 1) 9 [c0] with
    | none => simp [f2, f3, g2, g3, hc1, hc2, e1] at h
    | some x0 =>
      cases e2 : Tryz.prog.keyLits (n + 1) 3 [c1] with
      | none => simp [f2, f3, g2, g3, hc1, hc2, e1, e2] at h
      | some x1 =>
        obtain ⟨s0, rfl, z0⟩ := k1 _ _ e1
        obtain ⟨s1, rfl, z1⟩ := k2 _ _ e2
        refine ⟨(s0, s1), rfl, ⟨z0, z1⟩, ?_⟩
        have h1 := keyOf_vr (l := (s0, s1)) ⟨z0, z1⟩
        unfold vrV at h1
        rw [h0] at h1
        exact Option.some.inj h1
  · cases h
/-- Versions as keys. -/
def KV : KT Vr 94 where
  enc := vrV
  lit := vrLit
  ok := SzV
  law := lawVr
  key h := keyOf_vr h
  inv h := keyOf_vr_inv h
  inj ha hb h := vrLit_inj ha hb h
  eni h := vrV_inj h
  isk _ := trivial
theorem zeroI (w : World) : (zeroValue 3).run Tryz.prog w = .ok (.int .i64 0) w := by kernel_rfl
abbrev mapII : TypeId := 69
abbrev mapVI : TypeId := 90
abbrev mapSI : TypeId := 111
theorem mapII_und : Tryz.prog.underlying mapII = some (.map 3 3) := by kernel_rfl
theorem mapVI_und : Tryz.prog.underlying mapVI = some (.map 94 3) := by kernel_rfl
theorem mapSI_und : Tryz.prog.underlying mapSI = some (.map 9 3) := by kernel_rfl
end Go.Proofs.YtnpeankmmojebaaGreatDoor
