/- Layer 9: maps from keys of any type to values of any kind, as plain lists; the operations on them as laws for the walk. -/
import Derived.Test.YtnpeankmmojebaaGreatDoorJAC
import Derived.Test.YtnpeankmmojebaaGreatDoorProg
import Derived.DeepKeys4
import Derived.Maps.OwnSet
import Derived.Maps.Range
import Derived.Maps.RangeWalk
import Derived.Maps.OwnOps
set_option linter.unusedVariables false
namespace Go.Proofs.YtnpeankmmojebaaGreatDoor
set_option maxRecDepth 100000
set_option maxRecDepth 100000
open Go.RowKit Go.Maps Go.ChangeMaps Go.MapKept

/-- A type of keys. -/
structure KT (κ : Type) (k : TypeId) where
  enc : κ → Value
  lit : κ → Lit
  ok : κ → Prop
  law : Keyed Tryz.prog k
  key : ∀ {x}, ok x → keyOf Tryz.prog k (enc x) = some (lit x)
  inv : ∀ {v kl}, keyOf Tryz.prog k v = some kl → ∃ x, v = enc x ∧ ok x ∧ kl = lit x
  inj : ∀ {a b}, ok a → ok b → lit a = lit b → a = b
  eni : ∀ {a b}, enc a = enc b → a = b
  isk : ∀ x, WideAt.IsKeyLit (lit x)
/-- Any value, as it is. -/
def heldR (v : Value) : Option (DataW Value × List MemPlace) := some (.held v, [])
section
variable {κ : Type}
def OnceM (hs : List (κ × Value)) : Prop := (hs.map (·.1)).Nodup
theorem OnceM.nil : OnceM ([] : List (κ × Value)) := List.nodup_nil
/-- m[x] of no map. -/
theorem look_nil {k : TypeId} {T : KT κ k} {w : World} {t e : TypeId} (ht : Tryz.prog.underlying t = some (.map k e)) {z : Value} (hz : (zeroValue e).run Tryz.prog w = .ok z w) {x : κ} (hx : T.ok x) :
    (Instr.lookup t (.map none) (T.enc x) false).run Tryz.prog w = .ok z w := Maps.look_nil false T.law ht hz (T.key hx)
/-- m[x] of no map -/
theorem wp_look_nil {k : TypeId} {w : World} {ops : Array Oper} {rest : List Oper} {o : Oper} {a : Act} {Q : Exit → Act → World → Prop} {t e : TypeId} (T : KT κ k) (hg : o.guard = none) (m x : Operand) (hop : o.op = Op.lookup t m x false) (hm : a.eval m = .map none) (ht : Tryz.prog.underlying t = some (.map k e)) (z : Value) (hz : (zeroValue e).run Tryz.prog w = .ok z w) (y : κ) (hy : T.ok y) (hx : a.eval x = T.enc y)
    (hK : wpList Tryz.prog ops Q rest (a.put o.dst z) w) : wpList Tryz.prog ops Q (o :: rest) a w := by
  refine wpList_plain hg fun K' hK' => ?_
  unfold Oper.wp
  simp [execOp, hop, hm, hx, look_nil (T := T) ht hz hy, Result.andThen]
  exact hK' _ _ hK
variable [DecidableEq κ]
def getM (hs : List (κ × Value)) (x : κ) : Option Value := (hs.find? fun h => decide (h.1 = x)).map (·.2)
def delM (hs : List (κ × Value)) (x : κ) : List (κ × Value) := hs.filter fun h => !decide (h.1 = x)
def putM (hs : List (κ × Value)) (x : κ) (v : Value) : List (κ × Value) := delM hs x ++ [(x, v)]
theorem getM_none {hs : List (κ × Value)} {x : κ} : getM hs x = none ↔ ∀ v, (x, v) ∉ hs := by
  unfold getM
  rw [Option.map_eq_none_iff, List.find?_eq_none]
  constructor
  · intro h v hv; exact h _ hv (by simp)
  · rintro h ⟨a, b⟩ hm e
    obtain rfl : a = x := by simpa using e
    exact h b hm
theorem getM_some {hs : List (κ × Value)} (h : OnceM hs) {x : κ} {v : Value} : getM hs x = some v ↔ (x, v) ∈ hs := by
  constructor
  · intro e
    unfold getM at e
    rw [Option.map_eq_some_iff] at e
    obtain ⟨⟨a, b⟩, h1, h2⟩ := e
    have h3 := List.find?_some h1
    obtain rfl : a = x := by simpa using h3
    have h2' : b = v := h2
    subst h2'
    exact List.mem_of_find?_eq_some h1
  · intro hm
    induction hs with
    | nil => cases hm
    | cons y hs ih =>
      obtain ⟨n1, n2⟩ := List.nodup_cons.1 (show (y.1 :: hs.map (·.1)).Nodup from h)
      unfold getM at ih ⊢
      rcases List.mem_cons.1 hm with e | e
      · rw [List.find?_cons_of_pos (by rw [← e]; simp), ← e]; rfl
      · have : y.1 ≠ x := fun e2 => n1 (List.mem_map.2 ⟨_, e, e2.symm⟩)
        rw [List.find?_cons_of_neg (by simpa using this)]
        exact ih n2 e
theorem OnceM.del {hs : List (κ × Value)} (h : OnceM hs) (x : κ) : OnceM (delM hs x) := List.Nodup.sublist (List.Sublist.map _ List.filter_sublist) h
theorem mem_delM {hs : List (κ × Value)} {x y : κ} {v : Value} : (y, v) ∈ delM hs x ↔ (y, v) ∈ hs ∧ y ≠ x := by
  unfold delM; simp
theorem OnceM.put {hs : List (κ × Value)} (h : OnceM hs) (x : κ) (v : Value) : OnceM (putM hs x v) := by
  show ((delM hs x ++ [(x, v)]).map (·.1)).Nodup
  rw [List.map_append, List.map_cons, List.map_nil]
  refine List.nodup_append.2 ⟨h.del x, by simp, fun a ha b hb => ?_⟩
  rw [List.mem_singleton.1 hb]
  rintro rfl
  obtain ⟨⟨y, u⟩, hy, e⟩ := List.mem_map.1 ha
  have e : y = _ := e
  exact (mem_delM.1 hy).2 e
theorem getM_del (hs : List (κ × Value)) (x k : κ) : getM (delM hs x) k = if k = x then none else getM hs k := by
  induction hs with
  | nil => simp [getM, delM]
  | cons y hs ih =>
    unfold getM delM at ih ⊢
    by_cases hx : y.1 = x
    · rw [List.filter_cons_of_neg (by simp [hx]), ih]
      by_cases e : k = x
      · simp [e]
      · rw [if_neg e, if_neg e, List.find?_cons_of_neg (by rw [hx]; simpa using Ne.symm e)]
    · rw [List.filter_cons_of_pos (by simp [hx])]
      by_cases e2 : y.1 = k
      · rw [List.find?_cons_of_pos (by simpa using e2), List.find?_cons_of_pos (by simpa using e2)]
        rw [if_neg (by rw [← e2]; exact hx)]
      · rw [List.find?_cons_of_neg (by simpa using e2), ih, List.find?_cons_of_neg (by simpa using e2)]
theorem getM_put (hs : List (κ × Value)) (x : κ) (v : Value) (k : κ) : getM (putM hs x v) k = if k = x then some v else getM hs k := by
  have h1 := getM_del hs x k
  unfold putM
  unfold getM at h1 ⊢
  rw [List.find?_append]
  by_cases e : k = x
  · rw [if_pos e] at h1 ⊢
    rw [Option.map_eq_none_iff.1 h1]
    simp [e]
  · rw [if_neg e] at h1 ⊢
    rw [← h1]
    cases List.find? (fun h => decide (h.1 = k)) (delM hs x) with
    | some z => rfl
    | none => simp [Ne.symm e]
theorem del_none {hs : List (κ × Value)} {x : κ} (h : getM hs x = none) : delM hs x = hs := List.filter_eq_self.2 fun y hy => by
  have : y.1 ≠ x := fun e => getM_none.1 h y.2 (by rw [← e]; exact hy)
  simpa using this
theorem del_len {hs : List (κ × Value)} (h : OnceM hs) {x : κ} {v : Value} (hm : (x, v) ∈ hs) : (delM hs x).length + 1 = hs.length := by
  induction hs with
  | nil => cases hm
  | cons y hs ih =>
    obtain ⟨n1, n2⟩ := List.nodup_cons.1 (show (y.1 :: hs.map (·.1)).Nodup from h)
    unfold delM at ih ⊢
    by_cases e : y.1 = x
    · rw [List.filter_cons_of_neg (by simp [e])]
      have : (hs.filter fun h => !decide (h.1 = x)) = hs := List.filter_eq_self.2 fun z hz => by
        have : z.1 ≠ x := fun e2 => n1 (List.mem_map.2 ⟨z, hz, by rw [e2, e]⟩)
        simpa using this
      rw [this]; rfl
    · rw [List.filter_cons_of_pos (by simp [e])]
      rcases List.mem_cons.1 hm with e2 | e2
      · exact absurd (by rw [← e2]) e
      · simp only [List.length_cons]
        rw [ih n2 e2]
variable {k : TypeId} (T : KT κ k)
/-- The map reads as the list. -/
structure ViewM (D : DataW Value) (hs : List (κ × Value)) : Prop where
  once : OnceM hs
  ok : ∀ h ∈ hs, T.ok h.1
  tidy : Tidy D
  size : Maps.size D = hs.length
  has : ∀ x, T.ok x → Maps.has D (T.lit x) = (getM hs x).isSome
  at_ : ∀ x, T.ok x → ∀ z, D.atKey (T.lit x) z = (getM hs x).elim z .held
theorem ViewM.nil : ViewM T (.map []) [] := ⟨OnceM.nil, by simp, tidy_empty, rfl, fun l _ => rfl, fun l _ z => rfl⟩
variable {T}
theorem ViewM.put {D : DataW Value} {hs : List (κ × Value)} (h : ViewM T D hs) {x : κ} (hx : T.ok x) (v : Value) : ViewM T (D.put (T.lit x) (.held v)) (putM hs x v) := by
  have hhas := h.has x hx
  refine ⟨h.once.put x v, fun y hy => ?_, h.tidy.put (T.isk x) _, ?_, fun k hk => ?_, fun k hk z => ?_⟩
  · rcases List.mem_append.1 hy with e | e
    · exact h.ok y (List.mem_filter.1 e).1
    · rw [List.mem_singleton.1 e]; exact hx
  · rw [size_put h.tidy, hhas, h.size]
    cases hg : getM hs x with
    | none => simp [putM, del_none hg]
    | some u =>
      have := del_len h.once ((getM_some h.once).1 hg)
      simp [putM]; omega
  · rw [getM_put]
    by_cases e : k = x
    · subst e; rw [has_put_same h.tidy.isMap (T.isk _), if_pos rfl]; rfl
    · rw [has_put_other (fun e2 => e (T.inj hk hx e2)), if_neg e]; exact h.has k hk
  · rw [getM_put]
    by_cases e : k = x
    · subst e; rw [atKey_put_same h.tidy.isMap (T.isk _), if_pos rfl]; rfl
    · rw [atKey_put_other (fun e2 => e (T.inj hk hx e2)), if_neg e]; exact h.at_ k hk z
theorem ViewM.del {D : DataW Value} {hs : List (κ × Value)} (h : ViewM T D hs) {x : κ} (hx : T.ok x) : ViewM T (D.del (T.lit x)) (delM hs x) := by
  have hhas := h.has x hx
  refine ⟨h.once.del x, fun y hy => h.ok y (List.mem_filter.1 hy).1, h.tidy.del _, ?_, fun k hk => ?_, fun k hk z => ?_⟩
  · have h1 := size_del (k := T.lit x) h.tidy
    rw [hhas, h.size] at h1
    cases hg : getM hs x with
    | none => rw [hg] at h1; rw [del_none hg]; simpa using h1
    | some u =>
      rw [hg] at h1
      have := del_len h.once ((getM_some h.once).1 hg)
      simp at h1; omega
  · rw [getM_del]
    by_cases e : k = x
    · subst e; rw [has_del_same, if_pos rfl]; rfl
    · rw [has_del_other (fun e2 => e (T.inj hk hx e2)), if_neg e]; exact h.has k hk
  · rw [getM_del]
    by_cases e : k = x
    · subst e; rw [atKey_del_same, if_pos rfl]; rfl
    · rw [atKey_del_other (fun e2 => e (T.inj hk hx e2)), if_neg e]; exact h.at_ k hk z
/-- What is told of a list is told of one with the same members. -/
theorem ViewM.perm {D : DataW Value} {hs hs2 : List (κ × Value)} (h : ViewM T D hs) (hp : hs.Perm hs2) : ViewM T D hs2 := by
  have h2 : OnceM hs2 := (hp.map _).nodup_iff.1 h.once
  have hh : ∀ l, getM hs2 l = getM hs l := fun l => by
    cases e : getM hs l with
    | none => exact getM_none.2 fun v hv => getM_none.1 e v (hp.mem_iff.2 hv)
    | some v => exact (getM_some h2).2 (hp.mem_iff.1 ((getM_some h.once).1 e))
  exact ⟨h2, fun x hx => h.ok x (hp.mem_iff.2 hx), h.tidy, by rw [h.size, hp.length_eq], fun l hl => by rw [hh]; exact h.has l hl, fun l hl z => by rw [hh]; exact h.at_ l hl z⟩
variable (T)
/-- Block r is a map that holds just these. -/
def MapM (w : World) (r : Nat) (hs : List (κ × Value)) : Prop := ∃ D : DataW Value, w.ownsMap Tryz.prog k heldR r hs.length D ∧ ViewM T D hs
variable {T}
theorem owns_tightM {R : Value → Option (DataW Value × List MemPlace)} {w : World} {b n : Nat} {D : DataW Value} (h : w.ownsMap Tryz.prog k R b n D) : w.ownsMap Tryz.prog k R b (Maps.size D) D := by
  obtain ⟨es, clock, h1, h2, h3, rfl⟩ := h
  refine ⟨es, clock, h1, h2, ?_, rfl⟩
  rw [size_eq, length_sorted]
  simp
theorem MapM.block {w w' : World} {r : Nat} {hs : List (κ × Value)} (h : MapM T w r hs) (hb : w'.heap[r]? = w.heap[r]?) : MapM T w' r hs := by
  obtain ⟨D, ⟨es, clock, h1, h2⟩, hv⟩ := h
  exact ⟨D, ⟨es, clock, hb.trans h1, h2⟩, hv⟩
theorem MapM.lt {w : World} {r : Nat} {hs : List (κ × Value)} (h : MapM T w r hs) : r < w.heap.size := by
  obtain ⟨D, ho, -⟩ := h
  exact ho.lt
theorem MapM.once {w : World} {r : Nat} {hs : List (κ × Value)} (h : MapM T w r hs) : OnceM hs := by
  obtain ⟨D, -, hv⟩ := h
  exact hv.once
theorem MapM.ok {w : World} {r : Nat} {hs : List (κ × Value)} (h : MapM T w r hs) : ∀ x ∈ hs, T.ok x.1 := by
  obtain ⟨D, -, hv⟩ := h
  exact hv.ok
theorem MapM.perm {w : World} {r : Nat} {hs hs2 : List (κ × Value)} (h : MapM T w r hs) (hp : hs.Perm hs2) : MapM T w r hs2 := by
  obtain ⟨D, ho, hv⟩ := h
  exact ⟨D, hp.length_eq ▸ ho, hv.perm hp⟩
theorem MapM.new (T : KT κ k) (w : World) : MapM T (w.alloc (.map #[] 0)) w.heap.size [] := ⟨_, World.ownsMap_made _ _ _ _, ViewM.nil T⟩
/-- The block is no list's, no struct's. -/
theorem MapM.no {w : World} {r : Nat} {hs : List (κ × Value)} (h : MapM T w r hs) {cs : Array Value} {e : TypeId} {fr : Nat × Nat} {b : Nat} (hb : w.heap[b]? = some (.cells cs e fr)) : b ≠ r := by
  rintro rfl
  obtain ⟨D, ⟨es, clock, h1, -⟩, -⟩ := h
  rw [hb] at h1; cases h1
/-- m[x] as one instruction. -/
theorem MapM.look {w : World} {r : Nat} {hs : List (κ × Value)} (hM : MapM T w r hs) {t e : TypeId} (ht : Tryz.prog.underlying t = some (.map k e)) {z : Value} (hz : (zeroValue e).run Tryz.prog w = .ok z w) {x : κ} (hx : T.ok x) :
    (Instr.lookup t (.map (some r)) (T.enc x) false).run Tryz.prog w = .ok ((getM hs x).getD z) w := by
  obtain ⟨D, ho, hv⟩ := hM
  obtain ⟨v, ps, hrun, h1⟩ := ho.lookup T.law ht hz (zd := .held z) (zp := []) rfl (T.key hx)
  rw [hv.at_ x hx] at h1
  rw [hrun]
  unfold heldR at h1
  simp only [Option.some.injEq, Prod.mk.injEq] at h1
  obtain ⟨h1, -⟩ := h1
  cases hg : getM hs x with
  | none => rw [hg] at h1; simp only [Option.elim_none, DataW.held.injEq] at h1; rw [h1]; rfl
  | some u => rw [hg] at h1; simp only [Option.elim_some, DataW.held.injEq] at h1; rw [h1]; rfl
/-- len(m) as one instruction. -/
theorem MapM.len {w : World} {r : Nat} {hs : List (κ × Value)} (hM : MapM T w r hs) {t e : TypeId} (ht : Tryz.prog.underlying t = some (.map k e)) (ty : TypeId) : (Builtin.len_ #[t] ty #[.map (some r)]).run Tryz.prog w = .ok (.int .i64 (hs.length : Nat)) w := by
  obtain ⟨D, ho, hv⟩ := hM
  have := ho.len ht ty
  rw [hv.size] at this
  exact this
variable (T)
/-- A range over the map that still has these to come. -/
def RangeM (w : World) (r it : Nat) (hs left : List (κ × Value)) : Prop := ∃ (D : DataW Value) (f : Lit → Bool) (cnt : Nat), w.ranges Tryz.prog k heldR r it hs.length D f cnt ∧ ViewM T D hs ∧ (∀ h ∈ left, h ∈ hs) ∧ OnceM left ∧ ∀ x, T.ok x → f (T.lit x) = (getM left x).isSome
variable {T}
theorem RangeM.map {w : World} {r it : Nat} {hs left : List (κ × Value)} (h : RangeM T w r it hs left) : MapM T w r hs := by
  obtain ⟨D, f, cnt, h1, h2, -⟩ := h
  exact ⟨D, h1.owns, h2⟩
theorem RangeM.sub {w : World} {r it : Nat} {hs left : List (κ × Value)} (h : RangeM T w r it hs left) : ∀ x ∈ left, x ∈ hs := by
  obtain ⟨D, f, cnt, h1, h2, h3, -⟩ := h
  exact h3
theorem RangeM.once {w : World} {r it : Nat} {hs left : List (κ × Value)} (h : RangeM T w r it hs left) : OnceM left := by
  obtain ⟨D, f, cnt, h1, h2, h3, h4, -⟩ := h
  exact h4
theorem RangeM.kept {w w' : World} {r it : Nat} {hs left : List (κ × Value)} (h : RangeM T w r it hs left) (h1 : w'.heap[r]? = w.heap[r]?) (h2 : w'.heap[it]? = w.heap[it]?) : RangeM T w' r it hs left := by
  obtain ⟨D, f, cnt, ⟨es, clock, since, seen, c0, b1, b2, b3, b4, b5, b6⟩, h4⟩ := h
  exact ⟨D, f, cnt, ⟨es, clock, since, seen, c0, h1.trans b1, b2, b3, b4, h2.trans b5, b6⟩, h4⟩
theorem RangeM.it_lt {w : World} {r it : Nat} {hs left : List (κ × Value)} (h : RangeM T w r it hs left) : it < w.heap.size := by
  obtain ⟨D, f, cnt, ⟨es, clock, since, seen, c0, b1, b2, b3, b4, b5, b6⟩, h4⟩ := h
  exact (Array.getElem?_eq_some_iff.1 b5).1
theorem left_kept {w w' : World} {r it : Nat} (h1 : w'.heap[r]? = w.heap[r]?) (h2 : w'.heap[it]? = w.heap[it]?) : w'.rangeLeft r it = w.rangeLeft r it := by
  unfold World.rangeLeft
  rw [h1, h2]
section
variable {w : World} {ops : Array Oper} {rest : List Oper} {o : Oper} {a : Act} {Q : Exit → Act → World → Prop} {r : Nat} {hs : List (κ × Value)} {t e : TypeId}
/-- m[x] -/
theorem wp_lookM (T : KT κ k) (hg : o.guard = none) (m x : Operand) (hop : o.op = Op.lookup t m x false) (hm : a.eval m = .map (some r)) (hM : MapM T w r hs) (ht : Tryz.prog.underlying t = some (.map k e)) (z : Value) (hz : (zeroValue e).run Tryz.prog w = .ok z w) (y : κ) (hy : T.ok y) (hx : a.eval x = T.enc y)
    (hK : wpList Tryz.prog ops Q rest (a.put o.dst ((getM hs y).getD z)) w) : wpList Tryz.prog ops Q (o :: rest) a w := by
  refine wpList_plain hg fun K' hK' => ?_
  unfold Oper.wp
  simp [execOp, hop, hm, hx, hM.look ht hz hy, Result.andThen]
  exact hK' _ _ hK
/-- m[x] = v -/
theorem wp_putM (T : KT κ k) (hg : o.guard = none) (m x v : Operand) (hop : o.op = Op.mapUpdate t m x v) (hm : a.eval m = .map (some r)) (hM : MapM T w r hs) (ht : Tryz.prog.underlying t = some (.map k e)) (y : κ) (hy : T.ok y) (hx : a.eval x = T.enc y) (hlen : hs.length < 4000000)
    (hK : ∀ w', MapM T w' r (putM hs y (a.eval v)) → w.grownBy w' (some r) → w'.heap.size = w.heap.size → wpList Tryz.prog ops Q rest (a.put o.dst undef) w') : wpList Tryz.prog ops Q (o :: rest) a w := by
  obtain ⟨D, ho, hv⟩ := hM
  refine wpList_mapUpdate_in w hg m x v t hop k e T.law ht heldR r hs.length D hm ho (by simp only [maxLen]; omega) _ _ (T.lit y) hx rfl (T.key hy) (.held (a.eval v)) [] rfl fun w' h1 h2 => ?_
  have h3 := owns_tightM h1
  have h4 := hv.put hy (a.eval v)
  rw [h4.size] at h3
  refine hK w' ⟨_, h3, h4⟩ h2.grown ?_
  obtain ⟨es, c, es', c', hb, rfl⟩ := h2
  simp [ChangeMaps.setBlock]
/-- delete(m, x) -/
theorem wp_delM (T : KT κ k) (hg : o.guard = none) (m x : Operand) (hop : o.op = Op.call { callee := Callee.builtin Builtin.delete, args := #[m, x], argTypes := #[t, k] }) (hm : a.eval m = .map (some r)) (hM : MapM T w r hs) (ht : Tryz.prog.underlying t = some (.map k e)) (y : κ) (hy : T.ok y) (hx : a.eval x = T.enc y)
    (hK : ∀ w', MapM T w' r (delM hs y) → w.grownBy w' (some r) → w'.heap.size = w.heap.size → wpList Tryz.prog ops Q rest (a.put o.dst (.tuple #[])) w') : wpList Tryz.prog ops Q (o :: rest) a w := by
  obtain ⟨D, ho, hv⟩ := hM
  refine wpList_delete_own w hg m x t k hop e T.law ht heldR r hs.length D hm ho _ (T.lit y) hx (T.key hy) fun w' h1 h2 => ?_
  have h3 := owns_tightM h1
  have h4 := hv.del hy
  rw [h4.size] at h3
  refine hK w' ⟨_, h3, h4⟩ h2.grown ?_
  obtain ⟨es, c, es', c', hb, rfl⟩ := h2
  simp [ChangeMaps.setBlock]
/-- delete(m, x) while the map is ranged over: the one that has come up. -/
theorem wp_rdelM (T : KT κ k) (hg : o.guard = none) (m x : Operand) (hop : o.op = Op.call { callee := Callee.builtin Builtin.delete, args := #[m, x], argTypes := #[t, k] }) (hm : a.eval m = .map (some r)) (it : Nat) (left : List (κ × Value)) (hR : RangeM T w r it hs left) (ht : Tryz.prog.underlying t = some (.map k e)) (y : κ) (hy : T.ok y) (hx : a.eval x = T.enc y) (hnot : getM left y = none)
    (hK : ∀ w', RangeM T w' r it (delM hs y) left → w.grownBy w' (some r) → w'.heap.size = w.heap.size → w'.rangeLeft r it ≤ w.rangeLeft r it → wpList Tryz.prog ops Q rest (a.put o.dst (.tuple #[])) w') : wpList Tryz.prog ops Q (o :: rest) a w := by
  obtain ⟨D, f, cnt, h1, hvw, hsub, honce, hf⟩ := hR
  refine wpList_delete_ranges w hg m x t k hop e T.law ht heldR r it hs.length D f cnt hm h1 _ (T.lit y) hx (T.key hy) fun w' cnt' h2 h3 h4 => ?_
  have hv := hvw.del hy
  refine hK w' ⟨D.del (T.lit y), fun z => f z && !z.sameKey (T.lit y), cnt', ?_, hv, fun h hh => ?_, honce, fun k hk => ?_⟩ h4.grown ?_ (by rw [h2.left_eq, h1.left_eq]; exact h3)
  · obtain ⟨es, clock, since, seen, c0, b1, b2, b3, b4, b5⟩ := h2
    refine ⟨es, clock, since, seen, c0, b1, b2, ?_, b4, b5⟩
    have h5 := hv.size
    rw [b4, size_eq, length_sorted] at h5
    simp at h5
    simp [h5]
  · refine List.mem_filter.2 ⟨hsub h hh, ?_⟩
    have : h.1 ≠ y := fun e => getM_none.1 hnot h.2 (by rw [← e]; exact hh)
    simpa using this
  · show (f (T.lit k) && !(T.lit k).sameKey (T.lit y)) = _
    rw [hf k hk]
    by_cases e2 : k = y
    · subst e2
      rw [hnot]; simp
    · rw [sameKey_ne (fun e3 => e2 (T.inj hk hy e3))]
      simp
  · obtain ⟨es, c, es', c', hb, rfl⟩ := h4
    simp [ChangeMaps.setBlock]
/-- range m -/
theorem wp_rangeM (T : KT κ k) (hg : o.guard = none) (m : Operand) (hop : o.op = Op.range t m) (hm : a.eval m = .map (some r)) (hM : MapM T w r hs) (ht : Tryz.prog.underlying t = some (.map k e))
    (hK : ∀ w', RangeM T w' r w.heap.size hs hs → w.grownBy w' none → w'.heap.size = w.heap.size + 1 → wpList Tryz.prog ops Q rest (a.put o.dst (.pointer (some ⟨w.heap.size, 0, none⟩))) w') : wpList Tryz.prog ops Q (o :: rest) a w := by
  obtain ⟨D, ho, hv⟩ := hM
  refine wpList_range_own w hg m t hop k e T.law ht heldR r hs.length D hm ho fun w' h1 h2 h3 => ?_
  exact hK w' ⟨D, _, _, h1, hv, fun _ h => h, hv.once, hv.has⟩ h2 h3
/-- The next round, or none. -/
theorem wp_nextM (T : KT κ k) (hg : o.guard = none) (p : Operand) (hop : o.op = Op.next p false) (it : Nat) (left : List (κ × Value)) (hp : a.eval p = .pointer (some ⟨it, 0, none⟩)) (hR : RangeM T w r it hs left)
    (hDone : left = [] → wpList Tryz.prog ops Q rest (a.put o.dst (.tuple #[.bool false])) w)
    (hMore : ∀ (x : κ) (v : Value) (w' : World), (x, v) ∈ left → T.ok x → RangeM T w' r it hs (delM left x) → w.grownBy w' (some it) → w'.heap.size = w.heap.size → w'.rangeLeft r it < w.rangeLeft r it →
      (Instr.entry (.pointer (some ⟨it, 0, none⟩))).run Tryz.prog w' = .ok (.tuple #[T.enc x, v]) w' → wpList Tryz.prog ops Q rest (a.put o.dst (.tuple #[.bool true, T.enc x, v])) w') :
    wpList Tryz.prog ops Q (o :: rest) a w := by
  obtain ⟨D, f, cnt, h1, hv, hsub, honce, hf⟩ := hR
  refine wpList_next_ranges w hg p hop k T.law heldR T.enc (id : Value → Value) (fun key kl h => ?_) (fun v y h => ⟨v, rfl⟩) r it hs.length D f cnt hp h1 (fun _ hno => ?_) (fun l c kl y w' cnt' hkey hleft hval hat hrg hlt hgr hsz hen => ?_)
  · obtain ⟨l, e, -⟩ := T.inv h
    exact ⟨l, e⟩
  · refine hDone ?_
    match left, hsub, honce, hf with
    | [], _, _, _ => rfl
    | h :: left, hsub, honce, hf =>
      have h2 := hf h.1 (hv.ok h (hsub h (List.mem_cons_self ..)))
      rw [hno, (getM_some honce (x := h.1) (v := h.2)).2 (List.mem_cons_self ..)] at h2
      cases h2
  · obtain ⟨l', e, hl, rfl⟩ := T.inv hkey
    obtain rfl := T.eni e
    have h2 := hf l hl
    rw [hleft] at h2
    obtain ⟨v, hgv⟩ := Option.isSome_iff_exists.1 h2.symm
    have hm := (getM_some honce).1 hgv
    have h3 := hat (.held undef)
    rw [hv.at_ l hl, (getM_some hv.once).2 (hsub _ hm)] at h3
    have h4 : y.1 = .held c := by
      have : some (DataW.held c, []) = some y := hval
      rw [← Option.some.inj this]
    rw [h4] at h3
    simp only [Option.elim_some, DataW.held.injEq] at h3
    subst h3
    refine hMore l v w' hm hl ⟨D, _, _, hrg, hv, fun h hh => hsub h (List.mem_filter.1 hh).1, honce.del l, fun k hk => ?_⟩ hgr hsz (by rw [hrg.left_eq, h1.left_eq]; exact hlt) hen
    rw [getM_del, hf k hk]
    by_cases e2 : k = l
    · subst e2
      rw [if_pos rfl, WideAt.sameKey_self (T.isk _)]
      simp
    · rw [if_neg e2, sameKey_ne (fun e3 => e2 (T.inj hk hl e3))]
      simp
end
end
/-- Numbers as keys. -/
def KI : KT Int 2 where
  enc := .int .i64
  lit := .int .i64
  ok x := (Lit.int .i64 x).wf = true
  law := int_keyed Tryz.underlying2
  key {x} h := by simp [keyOf, Tryz.underlying2, mapKey, h]
  inv {v kl} h := by
    obtain ⟨x, h1, h2, h3⟩ := Maps.keyOf_int_inv Tryz.underlying2 h
    exact ⟨x, h1, h3, h2⟩
  inj _ _ h := by simpa using h
  eni h := by simpa using h
  isk _ := trivial
/-- Texts as keys. -/
def KS : KT ByteArray 9 where
  enc := .string
  lit s := .string s.data.toList
  ok s := s.size ≤ maxLen
  law := string_keyed Tryz.underlying9
  key {x} h := by simp [keyOf, Tryz.underlying9, mapKey, h]
  inv {v kl} h := by
    cases v <;> simp [keyOf, Tryz.underlying9, mapKey] at h
    exact ⟨_, rfl, h.1, h.2.symm⟩
  inj {a b} _ _ h := by
    obtain ⟨a⟩ := a
    obtain ⟨b⟩ := b
    simp only [Lit.string.injEq] at h
    exact congrArg ByteArray.mk (Array.toList_inj.1 h)
  eni h := by simpa using h
  isk _ := trivial
end Go.Proofs.YtnpeankmmojebaaGreatDoor
