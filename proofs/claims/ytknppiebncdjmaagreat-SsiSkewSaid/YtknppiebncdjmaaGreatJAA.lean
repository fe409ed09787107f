import Derived.WalkKit
import Derived.WalkSpells
import Derived.Lib.Hide
import Derived.Handy
import Derived.Deep.Draws
import Derived.Test.YtknppiebncdjmaaGreatProg
import Derived.DeepKeys4
import Derived.Maps.OwnSet
import Derived.Maps.Range
import Derived.Maps.RangeWalk
import Derived.Maps.OwnOps
set_option linter.unusedVariables false
namespace Go.Proofs.YtknppiebncdjmaaGreat
set_option maxRecDepth 100000
open Go.RowKit

theorem block_add (a : Addr) (n : Nat) : (a.add n).block = a.block := by unfold Addr.add; split <;> rfl
structure RB (w : World) (A : Option Addr) (n : Nat) (zs : List Int) : Prop where
  len : zs.length = n
  byte : ∀ z ∈ zs, 0 ≤ z ∧ z ≤ 255
  cell : 0 < n → ∃ ad, A = some ad ∧ ∀ j, j < n → w.cell? (ad.add j) = some (.int .u8 (zs.getD j 0))

section
variable {w w' : World} {A : Option Addr} {n : Nat} {zs : List Int}
theorem RB.getD (h : RB w A n zs) (j : Nat) : 0 ≤ zs.getD j 0 ∧ zs.getD j 0 ≤ 255 := by
  by_cases hj : j < zs.length
  · have := h.byte (zs.getD j 0) (by simp [List.getD_eq_getElem?_getD, List.getElem?_eq_getElem hj])
    exact this
  · simp [List.getD_eq_getElem?_getD, List.getElem?_eq_none (by omega : zs.length ≤ j)]
theorem RB.at_ {k : Nat} (h : RB w A n zs) (hk : k < n) : ∃ ad, A = some ad ∧ w.cell? (ad.add k) = some (.int .u8 (zs.getD k 0)) := by
  obtain ⟨ad, e, hc⟩ := h.cell (by omega)
  exact ⟨ad, e, hc k hk⟩
theorem RB.keep (h : RB w A n zs) (hk : ∀ (p : Addr) v, w.cell? p = some v → w'.cell? p = some v) : RB w' A n zs :=
  ⟨h.len, h.byte, fun hn => by
    obtain ⟨ad, e, hc⟩ := h.cell hn
    exact ⟨ad, e, fun j hj => hk _ _ (hc j hj)⟩⟩
theorem RB.below {B : Nat} (h : RB w A n zs) (hb : Below B w w') (hB : w.heap.size ≤ B) : RB w' A n zs :=
  h.keep fun p _ hp => (hb.cell (Nat.lt_of_lt_of_le (World.block_lt_of_cell? w p hp) hB)).trans hp
theorem RB.drew (h : RB w A n zs) : RB w.drew A n zs := ⟨h.len, h.byte, h.cell⟩
theorem RB.drewN (h : RB w A n zs) (k : Nat) : RB (w.drewN k) A n zs := ⟨h.len, h.byte, h.cell⟩
theorem RB.take {k : Nat} (h : RB w A n zs) (hk : k ≤ n) : RB w A k (zs.take k) := by
  refine ⟨by rw [List.length_take, h.len]; omega, fun z hz => h.byte z (List.mem_of_mem_take hz), fun hn => ?_⟩
  obtain ⟨ad, rfl, hcell⟩ := h.cell (by omega)
  refine ⟨ad, rfl, fun j hj => ?_⟩
  rw [hcell j (by omega)]
  simp [List.getD_eq_getElem?_getD, hj]
end

theorem RB.block {w : World} {g : Nat} {zs : List Int} {e : TypeId} {fr : Nat × Nat} (hb : ∀ z ∈ zs, 0 ≤ z ∧ z ≤ 255) (h : w.heap[g]? = some (.cells (zs.map (Value.int .u8)).toArray e fr)) :
    RB w (some ⟨g, 0, none⟩) zs.length zs := by
  refine ⟨rfl, hb, fun _ => ⟨_, rfl, fun j hj => ?_⟩⟩
  have hadd : (⟨g, 0, none⟩ : Addr).add j = ⟨g, j, none⟩ := by unfold Addr.add; split <;> simp_all
  rw [hadd, cell_of_row w g j _ e fr h]
  simp [List.getD_eq_getElem?_getD, List.getElem?_eq_getElem hj]
theorem RB.new (w : World) {zs : List Int} {e : TypeId} {fr : Nat × Nat} (hb : ∀ z ∈ zs, 0 ≤ z ∧ z ≤ 255) :
    RB (w.alloc (.cells (zs.map (Value.int .u8)).toArray e fr)) (some ⟨w.heap.size, 0, none⟩) zs.length zs :=
  RB.block hb (heap_alloc_new w _)
theorem below_next {w w1 w2 : World} (h : Below w.heap.size w w1) (h2 : Below w1.heap.size w1 w2) : Below w.heap.size w w2 := h.trans (h2.mono h.size)
theorem keep_below {w w' : World} {p : Addr} {v : Value} (h : w.cell? p = some v) (hb : Below w.heap.size w w') : w'.cell? p = some v :=
  (hb.cell (World.block_lt_of_cell? w p h)).trans h
theorem RB.empty (w : World) (A : Option Addr) : RB w A 0 [] := ⟨rfl, by simp, fun h => absurd h (by omega)⟩

end Go.Proofs.YtknppiebncdjmaaGreat

namespace Go.Proofs.YtknppiebncdjmaaGreat
set_option maxRecDepth 100000

def klB (a b : ByteArray) : Bool := Op.bytesLess a.toList b.toList
theorem bl_irrefl8 : ∀ x : List UInt8, Op.bytesLess x x = false
  | [] => rfl
  | a :: x => by simp [Op.bytesLess, bl_irrefl8 x]
theorem bl_trans8 : ∀ x y z : List UInt8, Op.bytesLess x y = true → Op.bytesLess y z = true → Op.bytesLess x z = true
  | _, [], _, h, _ => by cases ‹List UInt8› <;> simp [Op.bytesLess] at h
  | _, _ :: _, [], _, h => by simp [Op.bytesLess] at h
  | [], _ :: _, _ :: _, _, _ => rfl
  | a :: x, b :: y, c :: z, h1, h2 => by
    simp only [Op.bytesLess, Bool.or_eq_true, Bool.and_eq_true, decide_eq_true_eq, beq_iff_eq] at h1 h2 ⊢
    rcases h1 with h1 | ⟨rfl, h1⟩
    · rcases h2 with h2 | ⟨rfl, h2⟩
      · exact .inl (UInt8.lt_trans h1 h2)
      · exact .inl h1
    · rcases h2 with h2 | ⟨rfl, h2⟩
      · exact .inl h2
      · exact .inr ⟨rfl, bl_trans8 x y z h1 h2⟩
theorem bl_tri8 : ∀ x y : List UInt8, Op.bytesLess x y = false → Op.bytesLess y x = false → x = y
  | [], [], _, _ => rfl
  | [], _ :: _, h, _ => by simp [Op.bytesLess] at h
  | _ :: _, [], _, h => by simp [Op.bytesLess] at h
  | a :: x, b :: y, h1, h2 => by
    simp only [Op.bytesLess, Bool.or_eq_false_iff, decide_eq_false_iff_not, Bool.and_eq_false_iff, beq_eq_false_iff_ne] at h1 h2
    have hab : a = b := by
      have h3 := h1.1
      have h4 := h2.1
      rw [UInt8.lt_iff_toNat_lt] at h3 h4
      exact UInt8.toNat_inj.1 (by omega)
    subst hab
    have h3 : Op.bytesLess x y = false := by rcases h1.2 with h | h <;> simp_all
    have h4 : Op.bytesLess y x = false := by rcases h2.2 with h | h <;> simp_all
    rw [bl_tri8 x y h3 h4]
theorem klB_irrefl (a : ByteArray) : klB a a = false := bl_irrefl8 _
theorem klB_trans {a b c : ByteArray} (h1 : klB a b = true) (h2 : klB b c = true) : klB a c = true := bl_trans8 _ _ _ h1 h2
theorem ba_toList_inj8 {a b : ByteArray} (h : a.toList = b.toList) : a = b := by
  rw [ByteArray.toList_eq, ByteArray.toList_eq] at h
  cases a; cases b
  simpa using h
theorem klB_tri {a b : ByteArray} (h1 : klB a b = false) (h2 : klB b a = false) : a = b := ba_toList_inj8 (bl_tri8 _ _ h1 h2)
theorem klB_asymm {a b : ByteArray} (h : klB a b = true) : klB b a = false := by
  cases h2 : klB b a
  · rfl
  · have := klB_trans h h2; rw [klB_irrefl] at this; cases this
theorem klB_lt_le {a b c : ByteArray} (h1 : klB a b = true) (h2 : klB c b = false) : klB a c = true := by
  cases h3 : klB a c
  · rcases hcb : klB b c with _ | _
    · have := klB_tri h2 hcb; subst this; rw [h1] at h3; cases h3
    · rw [klB_trans h1 hcb] at h3; cases h3
  · rfl
theorem klB_le_lt {a b c : ByteArray} (h1 : klB b a = false) (h2 : klB b c = true) : klB a c = true := by
  cases h3 : klB a c
  · rcases hab : klB a b with _ | _
    · have := klB_tri hab h1; subst this; rw [h2] at h3; cases h3
    · rw [klB_trans hab h2] at h3; cases h3
  · rfl
theorem toList_beq8 (a b : ByteArray) : (a.toList == b.toList) = decide (a = b) := by
  by_cases h : a = b
  · subst h; simp
  · simp only [h, decide_false, beq_eq_false_iff_ne, ne_eq]
    exact fun e => h (ba_toList_inj8 e)
theorem bl_zero8 : ∀ k l : List UInt8, Op.bytesLess k (l ++ [0]) = !Op.bytesLess l k
  | [], [] => by simp [Op.bytesLess]
  | [], b :: l => by simp [Op.bytesLess]
  | a :: k, [] => by
    have h : ¬ a < 0 := UInt8.not_lt.2 (UInt8.zero_le)
    cases k <;> simp [Op.bytesLess, h]
  | a :: k, b :: l => by
    have ih := bl_zero8 k l
    show (decide (a < b) || (a == b && Op.bytesLess k (l ++ [0]))) = !(decide (b < a) || (b == a && Op.bytesLess l k))
    rw [ih]
    by_cases h1 : a < b
    · have h2 : ¬ b < a := fun h => UInt8.lt_irrefl a (UInt8.lt_trans h1 h)
      have h3 : ¬ b = a := fun e => by subst e; exact UInt8.lt_irrefl _ h1
      simp [h1, h2, h3]
    · by_cases h2 : b < a
      · have h3 : ¬ a = b := fun e => by subst e; exact UInt8.lt_irrefl _ h2
        simp [h1, h2, h3]
      · have h3 : a = b := UInt8.le_antisymm (UInt8.not_lt.1 h2) (UInt8.not_lt.1 h1)
        subst h3
        simp [UInt8.lt_irrefl]
theorem klB_zero (k l : ByteArray) : klB k (l ++ ⟨#[0]⟩) = !klB l k := by
  unfold klB
  rw [← bl_zero8]
  congr 1
  rw [ByteArray.toList_eq, ByteArray.toList_eq, ByteArray.data_append, Array.toList_append]
theorem nil_toList : (⟨#[]⟩ : ByteArray).toList = [] := by rw [ByteArray.toList_eq]
def isE (a : ByteArray) : Bool := a.toList == []
theorem isE_is (a : ByteArray) : isE a = decide (a = ⟨#[]⟩) := by
  unfold isE
  rw [← toList_beq8, nil_toList]
theorem klB_nil (a : ByteArray) : klB a ⟨#[]⟩ = false := by
  unfold klB
  rw [nil_toList]
  cases a.toList <;> rfl
theorem bl_le8 (a b : ByteArray) : klB b a = !(Op.bytesLess a.toList b.toList || a.toList == b.toList) := by
  show klB b a = !(klB a b || a.toList == b.toList)
  rw [toList_beq8]
  by_cases e : a = b
  · subst e; simp [klB_irrefl]
  · cases h1 : klB a b with
    | true => simp [klB_asymm h1]
    | false =>
      cases h2 : klB b a with
      | true => simp [e]
      | false => exact absurd (klB_tri h1 h2) e
end Go.Proofs.YtknppiebncdjmaaGreat

namespace Go.Proofs.YtknppiebncdjmaaGreat
set_option maxRecDepth 100000
open Go.RowKit Go.Maps Go.ChangeMaps Go.MapKept

structure KT (κ : Type) (k : TypeId) where
  enc : κ → Value
  lit : κ → Lit
  ok : κ → Prop
  law : Keyed Tryz.prog k
  key : ∀ {x}, ok x → keyOf Tryz.prog k (enc x) = some (lit x)
  inv : ∀ {v kl}, keyOf Tryz.prog k v = some kl → ∃ x, v = enc x ∧ ok x ∧ kl = lit x
  inj : ∀ {a b}, ok a → ok b → lit a = lit b → a = b
  eni : ∀ {a b}, enc a = enc b → a = b
  isk : ∀ x, WideAt.IsKeyLit (lit x)
def heldR (v : Value) : Option (DataW Value × List MemPlace) := some (.held v, [])
section
variable {κ : Type}
def OnceM (hs : List (κ × Value)) : Prop := (hs.map (·.1)).Nodup
theorem OnceM.nil : OnceM ([] : List (κ × Value)) := List.nodup_nil
theorem look_nil {k : TypeId} {T : KT κ k} {w : World} {t e : TypeId} (ht : Tryz.prog.underlying t = some (.map k e)) {z : Value} (hz : (zeroValue e).run Tryz.prog w = .ok z w) {x : κ} (hx : T.ok x) :
    (Instr.lookup t (.map none) (T.enc x) false).run Tryz.prog w = .ok z w := Maps.look_nil false T.law ht hz (T.key hx)
variable [DecidableEq κ]
def getM (hs : List (κ × Value)) (x : κ) : Option Value := (hs.find? fun h => decide (h.1 = x)).map (·.2)
def delM (hs : List (κ × Value)) (x : κ) : List (κ × Value) := hs.filter fun h => !decide (h.1 = x)
def putM (hs : List (κ × Value)) (x : κ) (v : Value) : List (κ × Value) := delM hs x ++ [(x, v)]
theorem getM_none {hs : List (κ × Value)} {x : κ} : getM hs x = none ↔ ∀ v, (x, v) ∉ hs := by
  unfold getM
  rw [Option.map_eq_none_iff, List.find?_eq_none]
  constructor
  · intro h v hv; exact h _ hv (by simp)
  · rintro h ⟨a, b⟩ hm e
    obtain rfl : a = x := by simpa using e
    exact h b hm
theorem getM_some {hs : List (κ × Value)} (h : OnceM hs) {x : κ} {v : Value} : getM hs x = some v ↔ (x, v) ∈ hs := by
  constructor
  · intro e
    unfold getM at e
    rw [Option.map_eq_some_iff] at e
    obtain ⟨⟨a, b⟩, h1, h2⟩ := e
    have h3 := List.find?_some h1
    obtain rfl : a = x := by simpa using h3
    have h2' : b = v := h2
    subst h2'
    exact List.mem_of_find?_eq_some h1
  · intro hm
    induction hs with
    | nil => cases hm
    | cons y hs ih =>
      obtain ⟨n1, n2⟩ := List.nodup_cons.1 (show (y.1 :: hs.map (·.1)).Nodup from h)
      unfold getM at ih ⊢
      rcases List.mem_cons.1 hm with e | e
      · rw [List.find?_cons_of_pos (by rw [← e]; simp), ← e]; rfl
      · have : y.1 ≠ x := fun e2 => n1 (List.mem_map.2 ⟨_, e, e2.symm⟩)
        rw [List.find?_cons_of_neg (by simpa using this)]
        exact ih n2 e
theorem OnceM.del {hs : List (κ × Value)} (h : OnceM hs) (x : κ) : OnceM (delM hs x) := List.Nodup.sublist (List.Sublist.map _ List.filter_sublist) h
theorem mem_delM {hs : List (κ × Value)} {x y : κ} {v : Value} : (y, v) ∈ delM hs x ↔ (y, v) ∈ hs ∧ y ≠ x := by
  unfold delM; simp
theorem OnceM.put {hs : List (κ × Value)} (h : OnceM hs) (x : κ) (v : Value) : OnceM (putM hs x v) := by
  show ((delM hs x ++ [(x, v)]).map (·.1)).Nodup
  rw [List.map_append, List.map_cons, List.map_nil]
  refine List.nodup_append.2 ⟨h.del x, by simp, fun a ha b hb => ?_⟩
  rw [List.mem_singleton.1 hb]
  rintro rfl
  obtain ⟨⟨y, u⟩, hy, e⟩ := List.mem_map.1 ha
  have e : y = _ := e
  exact (mem_delM.1 hy).2 e
theorem getM_del (hs : List (κ × Value)) (x k : κ) : getM (delM hs x) k = if k = x then none else getM hs k := by
  induction hs with
  | nil => simp [getM, delM]
  | cons y hs ih =>
    unfold getM delM at ih ⊢
    by_cases hx : y.1 = x
    · rw [List.filter_cons_of_neg (by simp [hx]), ih]
      by_cases e : k = x
      · simp [e]
      · rw [if_neg e, if_neg e, List.find?_cons_of_neg (by rw [hx]; simpa using Ne.symm e)]
    · rw [List.filter_cons_of_pos (by simp [hx])]
      by_cases e2 : y.1 = k
      · rw [List.find?_cons_of_pos (by simpa using e2), List.find?_cons_of_pos (by simpa using e2)]
        rw [if_neg (by rw [← e2]; exact hx)]
      · rw [List.find?_cons_of_neg (by simpa using e2), ih, List.find?_cons_of_neg (by simpa using e2)]
theorem getM_put (hs : List (κ × Value)) (x : κ) (v : Value) (k : κ) : getM (putM hs x v) k = if k = x then some v else getM hs k := by
  have h1 := getM_del hs x k
  unfold putM
  unfold getM at h1 ⊢
  rw [List.find?_append]
  by_cases e : k = x
  · rw [if_pos e] at h1 ⊢
    rw [Option.map_eq_none_iff.1 h1]
    simp [e]
  · rw [if_neg e] at h1 ⊢
    rw [← h1]
    cases List.find? (fun h => decide (h.1 = k)) (delM hs x) with
    | some z => rfl
    | none => simp [Ne.symm e]
theorem del_none {hs : List (κ × Value)} {x : κ} (h : getM hs x = none) : delM hs x = hs := List.filter_eq_self.2 fun y hy => by
  have : y.1 ≠ x := fun e => getM_none.1 h y.2 (by rw [← e]; exact hy)
  simpa using this
theorem del_len {hs : List (κ × Value)} (h : OnceM hs) {x : κ} {v : Value} (hm : (x, v) ∈ hs) : (delM hs x).length + 1 = hs.length := by
  induction hs with
  | nil => cases hm
  | cons y hs ih =>
    obtain ⟨n1, n2⟩ := List.nodup_cons.1 (show (y.1 :: hs.map (·.1)).Nodup from h)
    unfold delM at ih ⊢
    by_cases e : y.1 = x
    · rw [List.filter_cons_of_neg (by simp [e])]
      have : (hs.filter fun h => !decide (h.1 = x)) = hs := List.filter_eq_self.2 fun z hz => by
        have : z.1 ≠ x := fun e2 => n1 (List.mem_map.2 ⟨z, hz, by rw [e2, e]⟩)
        simpa using this
      rw [this]; rfl
    · rw [List.filter_cons_of_pos (by simp [e])]
      rcases List.mem_cons.1 hm with e2 | e2
      · exact absurd (by rw [← e2]) e
      · simp only [List.length_cons]
        rw [ih n2 e2]
variable {k : TypeId} (T : KT κ k)
structure ViewM (D : DataW Value) (hs : List (κ × Value)) : Prop where
  once : OnceM hs
  ok : ∀ h ∈ hs, T.ok h.1
  tidy : Tidy D
  size : Maps.size D = hs.length
  has : ∀ x, T.ok x → Maps.has D (T.lit x) = (getM hs x).isSome
  at_ : ∀ x, T.ok x → ∀ z, D.atKey (T.lit x) z = (getM hs x).elim z .held
theorem ViewM.nil : ViewM T (.map []) [] := ⟨OnceM.nil, by simp, tidy_empty, rfl, fun l _ => rfl, fun l _ z => rfl⟩
variable {T}
theorem ViewM.put {D : DataW Value} {hs : List (κ × Value)} (h : ViewM T D hs) {x : κ} (hx : T.ok x) (v : Value) : ViewM T (D.put (T.lit x) (.held v)) (putM hs x v) := by
  have hhas := h.has x hx
  refine ⟨h.once.put x v, fun y hy => ?_, h.tidy.put (T.isk x) _, ?_, fun k hk => ?_, fun k hk z => ?_⟩
  · rcases List.mem_append.1 hy with e | e
    · exact h.ok y (List.mem_filter.1 e).1
    · rw [List.mem_singleton.1 e]; exact hx
  · rw [size_put h.tidy, hhas, h.size]
    cases hg : getM hs x with
    | none => simp [putM, del_none hg]
    | some u =>
      have := del_len h.once ((getM_some h.once).1 hg)
      simp [putM]; omega
  · rw [getM_put]
    by_cases e : k = x
    · subst e; rw [has_put_same h.tidy.isMap (T.isk _), if_pos rfl]; rfl
    · rw [has_put_other (fun e2 => e (T.inj hk hx e2)), if_neg e]; exact h.has k hk
  · rw [getM_put]
    by_cases e : k = x
    · subst e; rw [atKey_put_same h.tidy.isMap (T.isk _), if_pos rfl]; rfl
    · rw [atKey_put_other (fun e2 => e (T.inj hk hx e2)), if_neg e]; exact h.at_ k hk z
theorem ViewM.del {D : DataW Value} {hs : List (κ × Value)} (h : ViewM T D hs) {x : κ} (hx : T.ok x) : ViewM T (D.del (T.lit x)) (delM hs x) := by
  have hhas := h.has x hx
  refine ⟨h.once.del x, fun y hy => h.ok y (List.mem_filter.1 hy).1, h.tidy.del _, ?_, fun k hk => ?_, fun k hk z => ?_⟩
  · have h1 := size_del (k := T.lit x) h.tidy
    rw [hhas, h.size] at h1
    cases hg : getM hs x with
    | none => rw [hg] at h1; rw [del_none hg]; simpa using h1
    | some u =>
      rw [hg] at h1
      have := del_len h.once ((getM_some h.once).1 hg)
      simp at h1; omega
  · rw [getM_del]
    by_cases e : k = x
    · subst e; rw [has_del_same, if_pos rfl]; rfl
    · rw [has_del_other (fun e2 => e (T.inj hk hx e2)), if_neg e]; exact h.has k hk
  · rw [getM_del]
    by_cases e : k = x
    · subst e; rw [atKey_del_same, if_pos rfl]; rfl
    · rw [atKey_del_other (fun e2 => e (T.inj hk hx e2)), if_neg e]; exact h.at_ k hk z
theorem ViewM.perm {D : DataW Value} {hs hs2 : List (κ × Value)} (h : ViewM T D hs) (hp : hs.Perm hs2) : ViewM T D hs2 := by
  have h2 : OnceM hs2 := (hp.map _).nodup_iff.1 h.once
  have hh : ∀ l, getM hs2 l = getM hs l := fun l => by
    cases e : getM hs l with
    | none => exact getM_none.2 fun v hv => getM_none.1 e v (hp.mem_iff.2 hv)
    | some v => exact (getM_some h2).2 (hp.mem_iff.1 ((getM_some h.once).1 e))
  exact ⟨h2, fun x hx => h.ok x (hp.mem_iff.2 hx), h.tidy, by rw [h.size, hp.length_eq], fun l hl => by rw [hh]; exact h.has l hl, fun l hl z => by rw [hh]; exact h.at_ l hl z⟩
variable (T)
def MapM (w : World) (r : Nat) (hs : List (κ × Value)) : Prop := ∃ D : DataW Value, w.ownsMap Tryz.prog k heldR r hs.length D ∧ ViewM T D hs
variable {T}
theorem owns_tightM {R : Value → Option (DataW Value × List MemPlace)} {w : World} {b n : Nat} {D : DataW Value} (h : w.ownsMap Tryz.prog k R b n D) : w.ownsMap Tryz.prog k R b (Maps.size D) D := by
  obtain ⟨es, clock, h1, h2, h3, rfl⟩ := h
  refine ⟨es, clock, h1, h2, ?_, rfl⟩
  rw [size_eq, length_sorted]
  simp
theorem MapM.block {w w' : World} {r : Nat} {hs : List (κ × Value)} (h : MapM T w r hs) (hb : w'.heap[r]? = w.heap[r]?) : MapM T w' r hs := by
  obtain ⟨D, ⟨es, clock, h1, h2⟩, hv⟩ := h
  exact ⟨D, ⟨es, clock, hb.trans h1, h2⟩, hv⟩
theorem MapM.lt {w : World} {r : Nat} {hs : List (κ × Value)} (h : MapM T w r hs) : r < w.heap.size := by
  obtain ⟨D, ho, -⟩ := h
  exact ho.lt
theorem MapM.once {w : World} {r : Nat} {hs : List (κ × Value)} (h : MapM T w r hs) : OnceM hs := by
  obtain ⟨D, -, hv⟩ := h
  exact hv.once
theorem MapM.ok {w : World} {r : Nat} {hs : List (κ × Value)} (h : MapM T w r hs) : ∀ x ∈ hs, T.ok x.1 := by
  obtain ⟨D, -, hv⟩ := h
  exact hv.ok
theorem MapM.perm {w : World} {r : Nat} {hs hs2 : List (κ × Value)} (h : MapM T w r hs) (hp : hs.Perm hs2) : MapM T w r hs2 := by
  obtain ⟨D, ho, hv⟩ := h
  exact ⟨D, hp.length_eq ▸ ho, hv.perm hp⟩
theorem MapM.new (T : KT κ k) (w : World) : MapM T (w.alloc (.map #[] 0)) w.heap.size [] := ⟨_, World.ownsMap_made _ _ _ _, ViewM.nil T⟩
theorem MapM.no {w : World} {r : Nat} {hs : List (κ × Value)} (h : MapM T w r hs) {cs : Array Value} {e : TypeId} {fr : Nat × Nat} {b : Nat} (hb : w.heap[b]? = some (.cells cs e fr)) : b ≠ r := by
  rintro rfl
  obtain ⟨D, ⟨es, clock, h1, -⟩, -⟩ := h
  rw [hb] at h1; cases h1
theorem MapM.look {w : World} {r : Nat} {hs : List (κ × Value)} (hM : MapM T w r hs) {t e : TypeId} (ht : Tryz.prog.underlying t = some (.map k e)) {z : Value} (hz : (zeroValue e).run Tryz.prog w = .ok z w) {x : κ} (hx : T.ok x) :
    (Instr.lookup t (.map (some r)) (T.enc x) false).run Tryz.prog w = .ok ((getM hs x).getD z) w := by
  obtain ⟨D, ho, hv⟩ := hM
  obtain ⟨v, ps, hrun, h1⟩ := ho.lookup T.law ht hz (zd := .held z) (zp := []) rfl (T.key hx)
  rw [hv.at_ x hx] at h1
  rw [hrun]
  unfold heldR at h1
  simp only [Option.some.injEq, Prod.mk.injEq] at h1
  obtain ⟨h1, -⟩ := h1
  cases hg : getM hs x with
  | none => rw [hg] at h1; simp only [Option.elim_none, DataW.held.injEq] at h1; rw [h1]; rfl
  | some u => rw [hg] at h1; simp only [Option.elim_some, DataW.held.injEq] at h1; rw [h1]; rfl
theorem MapM.len {w : World} {r : Nat} {hs : List (κ × Value)} (hM : MapM T w r hs) {t e : TypeId} (ht : Tryz.prog.underlying t = some (.map k e)) (ty : TypeId) : (Builtin.len_ #[t] ty #[.map (some r)]).run Tryz.prog w = .ok (.int .i64 (hs.length : Nat)) w := by
  obtain ⟨D, ho, hv⟩ := hM
  have := ho.len ht ty
  rw [hv.size] at this
  exact this
variable (T)
def RangeM (w : World) (r it : Nat) (hs left : List (κ × Value)) : Prop := ∃ (D : DataW Value) (f : Lit → Bool) (cnt : Nat), w.ranges Tryz.prog k heldR r it hs.length D f cnt ∧ ViewM T D hs ∧ (∀ h ∈ left, h ∈ hs) ∧ OnceM left ∧ ∀ x, T.ok x → f (T.lit x) = (getM left x).isSome
variable {T}
theorem RangeM.map {w : World} {r it : Nat} {hs left : List (κ × Value)} (h : RangeM T w r it hs left) : MapM T w r hs := by
  obtain ⟨D, f, cnt, h1, h2, -⟩ := h
  exact ⟨D, h1.owns, h2⟩
theorem RangeM.sub {w : World} {r it : Nat} {hs left : List (κ × Value)} (h : RangeM T w r it hs left) : ∀ x ∈ left, x ∈ hs := by
  obtain ⟨D, f, cnt, h1, h2, h3, -⟩ := h
  exact h3
theorem RangeM.once {w : World} {r it : Nat} {hs left : List (κ × Value)} (h : RangeM T w r it hs left) : OnceM left := by
  obtain ⟨D, f, cnt, h1, h2, h3, h4, -⟩ := h
  exact h4
theorem RangeM.kept {w w' : World} {r it : Nat} {hs left : List (κ × Value)} (h : RangeM T w r it hs left) (h1 : w'.heap[r]? = w.heap[r]?) (h2 : w'.heap[it]? = w.heap[it]?) : RangeM T w' r it hs left := by
  obtain ⟨D, f, cnt, ⟨es, clock, since, seen, c0, b1, b2, b3, b4, b5, b6⟩, h4⟩ := h
  exact ⟨D, f, cnt, ⟨es, clock, since, seen, c0, h1.trans b1, b2, b3, b4, h2.trans b5, b6⟩, h4⟩
theorem RangeM.it_lt {w : World} {r it : Nat} {hs left : List (κ × Value)} (h : RangeM T w r it hs left) : it < w.heap.size := by
  obtain ⟨D, f, cnt, ⟨es, clock, since, seen, c0, b1, b2, b3, b4, b5, b6⟩, h4⟩ := h
  exact (Array.getElem?_eq_some_iff.1 b5).1
theorem left_kept {w w' : World} {r it : Nat} (h1 : w'.heap[r]? = w.heap[r]?) (h2 : w'.heap[it]? = w.heap[it]?) : w'.rangeLeft r it = w.rangeLeft r it := by
  unfold World.rangeLeft
  rw [h1, h2]
section
variable {w : World} {ops : Array Oper} {rest : List Oper} {o : Oper} {a : Act} {Q : Exit → Act → World → Prop} {r : Nat} {hs : List (κ × Value)} {t e : TypeId}
theorem wp_putM (T : KT κ k) (hg : o.guard = none) (m x v : Operand) (hop : o.op = Op.mapUpdate t m x v) (hm : a.eval m = .map (some r)) (hM : MapM T w r hs) (ht : Tryz.prog.underlying t = some (.map k e)) (y : κ) (hy : T.ok y) (hx : a.eval x = T.enc y) (hlen : hs.length < 4000000)
    (hK : ∀ w', MapM T w' r (putM hs y (a.eval v)) → w.grownBy w' (some r) → w'.heap.size = w.heap.size → wpList Tryz.prog ops Q rest (a.put o.dst undef) w') : wpList Tryz.prog ops Q (o :: rest) a w := by
  obtain ⟨D, ho, hv⟩ := hM
  refine wpList_mapUpdate_in w hg m x v t hop k e T.law ht heldR r hs.length D hm ho (by simp only [maxLen]; omega) _ _ (T.lit y) hx rfl (T.key hy) (.held (a.eval v)) [] rfl fun w' h1 h2 => ?_
  have h3 := owns_tightM h1
  have h4 := hv.put hy (a.eval v)
  rw [h4.size] at h3
  refine hK w' ⟨_, h3, h4⟩ h2.grown ?_
  obtain ⟨es, c, es', c', hb, rfl⟩ := h2
  simp [ChangeMaps.setBlock]
theorem wp_delM (T : KT κ k) (hg : o.guard = none) (m x : Operand) (hop : o.op = Op.call { callee := Callee.builtin Builtin.delete, args := #[m, x], argTypes := #[t, k] }) (hm : a.eval m = .map (some r)) (hM : MapM T w r hs) (ht : Tryz.prog.underlying t = some (.map k e)) (y : κ) (hy : T.ok y) (hx : a.eval x = T.enc y)
    (hK : ∀ w', MapM T w' r (delM hs y) → w.grownBy w' (some r) → w'.heap.size = w.heap.size → wpList Tryz.prog ops Q rest (a.put o.dst (.tuple #[])) w') : wpList Tryz.prog ops Q (o :: rest) a w := by
  obtain ⟨D, ho, hv⟩ := hM
  refine wpList_delete_own w hg m x t k hop e T.law ht heldR r hs.length D hm ho _ (T.lit y) hx (T.key hy) fun w' h1 h2 => ?_
  have h3 := owns_tightM h1
  have h4 := hv.del hy
  rw [h4.size] at h3
  refine hK w' ⟨_, h3, h4⟩ h2.grown ?_
  obtain ⟨es, c, es', c', hb, rfl⟩ := h2
  simp [ChangeMaps.setBlock]
theorem wp_rdelM (T : KT κ k) (hg : o.guard = none) (m x : Operand) (hop : o.op = Op.call { callee := Callee.builtin Builtin.delete, args := #[m, x], argTypes := #[t, k] }) (hm : a.eval m = .map (some r)) (it : Nat) (left : List (κ × Value)) (hR : RangeM T w r it hs left) (ht : Tryz.prog.underlying t = some (.map k e)) (y : κ) (hy : T.ok y) (hx : a.eval x = T.enc y) (hnot : getM left y = none)
    (hK : ∀ w', RangeM T w' r it (delM hs y) left → w.grownBy w' (some r) → w'.heap.size = w.heap.size → w'.rangeLeft r it ≤ w.rangeLeft r it → wpList Tryz.prog ops Q rest (a.put o.dst (.tuple #[])) w') : wpList Tryz.prog ops Q (o :: rest) a w := by
  obtain ⟨D, f, cnt, h1, hvw, hsub, honce, hf⟩ := hR
  refine wpList_delete_ranges w hg m x t k hop e T.law ht heldR r it hs.length D f cnt hm h1 _ (T.lit y) hx (T.key hy) fun w' cnt' h2 h3 h4 => ?_
  have hv := hvw.del hy
  refine hK w' ⟨D.del (T.lit y), fun z => f z && !z.sameKey (T.lit y), cnt', ?_, hv, fun h hh => ?_, honce, fun k hk => ?_⟩ h4.grown ?_ (by rw [h2.left_eq, h1.left_eq]; exact h3)
  · obtain ⟨es, clock, since, seen, c0, b1, b2, b3, b4, b5⟩ := h2
    refine ⟨es, clock, since, seen, c0, b1, b2, ?_, b4, b5⟩
    have h5 := hv.size
    rw [b4, size_eq, length_sorted] at h5
    simp at h5
    simp [h5]
  · refine List.mem_filter.2 ⟨hsub h hh, ?_⟩
    have : h.1 ≠ y := fun e => getM_none.1 hnot h.2 (by rw [← e]; exact hh)
    simpa using this
  · show (f (T.lit k) && !(T.lit k).sameKey (T.lit y)) = _
    rw [hf k hk]
    by_cases e2 : k = y
    · subst e2
      rw [hnot]; simp
    · rw [sameKey_ne (fun e3 => e2 (T.inj hk hy e3))]
      simp
  · obtain ⟨es, c, es', c', hb, rfl⟩ := h4
    simp [ChangeMaps.setBlock]
theorem wp_rangeM (T : KT κ k) (hg : o.guard = none) (m : Operand) (hop : o.op = Op.range t m) (hm : a.eval m = .map (some r)) (hM : MapM T w r hs) (ht : Tryz.prog.underlying t = some (.map k e))
    (hK : ∀ w', RangeM T w' r w.heap.size hs hs → w.grownBy w' none → w'.heap.size = w.heap.size + 1 → wpList Tryz.prog ops Q rest (a.put o.dst (.pointer (some ⟨w.heap.size, 0, none⟩))) w') : wpList Tryz.prog ops Q (o :: rest) a w := by
  obtain ⟨D, ho, hv⟩ := hM
  refine wpList_range_own w hg m t hop k e T.law ht heldR r hs.length D hm ho fun w' h1 h2 h3 => ?_
  exact hK w' ⟨D, _, _, h1, hv, fun _ h => h, hv.once, hv.has⟩ h2 h3
theorem wp_nextM (T : KT κ k) (hg : o.guard = none) (p : Operand) (hop : o.op = Op.next p false) (it : Nat) (left : List (κ × Value)) (hp : a.eval p = .pointer (some ⟨it, 0, none⟩)) (hR : RangeM T w r it hs left)
    (hDone : left = [] → wpList Tryz.prog ops Q rest (a.put o.dst (.tuple #[.bool false])) w)
    (hMore : ∀ (x : κ) (v : Value) (w' : World), (x, v) ∈ left → T.ok x → RangeM T w' r it hs (delM left x) → w.grownBy w' (some it) → w'.heap.size = w.heap.size → w'.rangeLeft r it < w.rangeLeft r it →
      (Instr.entry (.pointer (some ⟨it, 0, none⟩))).run Tryz.prog w' = .ok (.tuple #[T.enc x, v]) w' → wpList Tryz.prog ops Q rest (a.put o.dst (.tuple #[.bool true, T.enc x, v])) w') :
    wpList Tryz.prog ops Q (o :: rest) a w := by
  obtain ⟨D, f, cnt, h1, hv, hsub, honce, hf⟩ := hR
  refine wpList_next_ranges w hg p hop k T.law heldR T.enc (id : Value → Value) (fun key kl h => ?_) (fun v y h => ⟨v, rfl⟩) r it hs.length D f cnt hp h1 (fun _ hno => ?_) (fun l c kl y w' cnt' hkey hleft hval hat hrg hlt hgr hsz hen => ?_)
  · obtain ⟨l, e, -⟩ := T.inv h
    exact ⟨l, e⟩
  · refine hDone ?_
    match left, hsub, honce, hf with
    | [], _, _, _ => rfl
    | h :: left, hsub, honce, hf =>
      have h2 := hf h.1 (hv.ok h (hsub h (List.mem_cons_self ..)))
      rw [hno, (getM_some honce (x := h.1) (v := h.2)).2 (List.mem_cons_self ..)] at h2
      cases h2
  · obtain ⟨l', e, hl, rfl⟩ := T.inv hkey
    obtain rfl := T.eni e
    have h2 := hf l hl
    rw [hleft] at h2
    obtain ⟨v, hgv⟩ := Option.isSome_iff_exists.1 h2.symm
    have hm := (getM_some honce).1 hgv
    have h3 := hat (.held undef)
    rw [hv.at_ l hl, (getM_some hv.once).2 (hsub _ hm)] at h3
    have h4 : y.1 = .held c := by
      have : some (DataW.held c, []) = some y := hval
      rw [← Option.some.inj this]
    rw [h4] at h3
    simp only [Option.elim_some, DataW.held.injEq] at h3
    subst h3
    refine hMore l v w' hm hl ⟨D, _, _, hrg, hv, fun h hh => hsub h (List.mem_filter.1 hh).1, honce.del l, fun k hk => ?_⟩ hgr hsz (by rw [hrg.left_eq, h1.left_eq]; exact hlt) hen
    rw [getM_del, hf k hk]
    by_cases e2 : k = l
    · subst e2
      rw [if_pos rfl, WideAt.sameKey_self (T.isk _)]
      simp
    · rw [if_neg e2, sameKey_ne (fun e3 => e2 (T.inj hk hl e3))]
      simp
end
end
def KI : KT Int 2 where
  enc := .int .i64
  lit := .int .i64
  ok x := (Lit.int .i64 x).wf = true
  law := int_keyed Tryz.underlying2
  key {x} h := by simp [keyOf, Tryz.underlying2, mapKey, h]
  inv {v kl} h := by
    obtain ⟨x, h1, h2, h3⟩ := Maps.keyOf_int_inv Tryz.underlying2 h
    exact ⟨x, h1, h3, h2⟩
  inj _ _ h := by simpa using h
  eni h := by simpa using h
  isk _ := trivial
def KS : KT ByteArray 9 where
  enc := .string
  lit s := .string s.data.toList
  ok s := s.size ≤ maxLen
  law := string_keyed Tryz.underlying9
  key {x} h := by simp [keyOf, Tryz.underlying9, mapKey, h]
  inv {v kl} h := by
    cases v <;> simp [keyOf, Tryz.underlying9, mapKey] at h
    exact ⟨_, rfl, h.1, h.2.symm⟩
  inj {a b} _ _ h := by
    obtain ⟨a⟩ := a
    obtain ⟨b⟩ := b
    simp only [Lit.string.injEq] at h
    exact congrArg ByteArray.mk (Array.toList_inj.1 h)
  eni h := by simpa using h
  isk _ := trivial
end Go.Proofs.YtknppiebncdjmaaGreat

namespace Go.Proofs.YtknppiebncdjmaaGreat
set_option maxRecDepth 100000

section
variable {α : Type}
def getA (l : List (Int × α)) (x : Int) : Option α := (l.find? fun p => decide (p.1 = x)).map (·.2)
def delA (l : List (Int × α)) (x : Int) : List (Int × α) := l.filter fun p => !decide (p.1 = x)
def putA (l : List (Int × α)) (x : Int) (v : α) : List (Int × α) := delA l x ++ [(x, v)]
def OnceA (l : List (Int × α)) : Prop := (l.map (·.1)).Nodup
def encA (f : α → Value) (l : List (Int × α)) : List (Int × Value) := l.map fun p => (p.1, f p.2)
theorem getA_none {l : List (Int × α)} {x : Int} : getA l x = none ↔ ∀ v, (x, v) ∉ l := by
  unfold getA
  rw [Option.map_eq_none_iff, List.find?_eq_none]
  constructor
  · intro h v hv; exact h _ hv (by simp)
  · rintro h ⟨a, b⟩ hm e
    obtain rfl : a = x := by simpa using e
    exact h b hm
theorem getA_mem {l : List (Int × α)} {x : Int} {v : α} (e : getA l x = some v) : (x, v) ∈ l := by
  unfold getA at e
  rw [Option.map_eq_some_iff] at e
  obtain ⟨⟨a, b⟩, h1, h2⟩ := e
  have h3 := List.find?_some h1
  obtain rfl : a = x := by simpa using h3
  have h2' : b = v := h2
  subst h2'
  exact List.mem_of_find?_eq_some h1
theorem getA_some {l : List (Int × α)} (h : OnceA l) {x : Int} {v : α} : getA l x = some v ↔ (x, v) ∈ l := by
  refine ⟨getA_mem, fun hm => ?_⟩
  induction l with
  | nil => cases hm
  | cons y l ih =>
    obtain ⟨n1, n2⟩ := List.nodup_cons.1 (show (y.1 :: l.map (·.1)).Nodup from h)
    unfold getA at ih ⊢
    rcases List.mem_cons.1 hm with e | e
    · rw [List.find?_cons_of_pos (by rw [← e]; simp), ← e]; rfl
    · have : y.1 ≠ x := fun e2 => n1 (List.mem_map.2 ⟨_, e, e2.symm⟩)
      rw [List.find?_cons_of_neg (by simpa using this)]
      exact ih n2 e
theorem OnceA.nil : OnceA ([] : List (Int × α)) := List.nodup_nil
theorem OnceA.filter {l : List (Int × α)} (h : OnceA l) (q : Int × α → Bool) : OnceA (l.filter q) := List.Nodup.sublist (List.Sublist.map _ List.filter_sublist) h
theorem OnceA.del {l : List (Int × α)} (h : OnceA l) (x : Int) : OnceA (delA l x) := h.filter _
theorem mem_delA {l : List (Int × α)} {x y : Int} {v : α} : (y, v) ∈ delA l x ↔ (y, v) ∈ l ∧ y ≠ x := by
  unfold delA; simp
theorem OnceA.put {l : List (Int × α)} (h : OnceA l) (x : Int) (v : α) : OnceA (putA l x v) := by
  show ((delA l x ++ [(x, v)]).map (·.1)).Nodup
  rw [List.map_append, List.map_cons, List.map_nil]
  refine List.nodup_append.2 ⟨h.del x, by simp, fun a ha b hb => ?_⟩
  rw [List.mem_singleton.1 hb]
  rintro rfl
  obtain ⟨⟨y, u⟩, hy, e⟩ := List.mem_map.1 ha
  have e : y = _ := e
  exact (mem_delA.1 hy).2 e
theorem mem_putA {l : List (Int × α)} {x y : Int} {u v : α} : (y, u) ∈ putA l x v ↔ ((y, u) ∈ l ∧ y ≠ x) ∨ (y = x ∧ u = v) := by
  unfold putA
  rw [List.mem_append, mem_delA, List.mem_singleton, Prod.mk.injEq]
theorem getA_filter {l : List (Int × α)} (h : OnceA l) (q : Int × α → Bool) (x : Int) : getA (l.filter q) x = (getA l x).filter fun v => q (x, v) := by
  cases e : getA l x with
  | none =>
    refine getA_none.2 fun v hv => getA_none.1 e v (List.mem_filter.1 hv).1
  | some v =>
    have hm := getA_mem e
    by_cases hq : q (x, v) = true
    · rw [(getA_some (h.filter q)).2 (List.mem_filter.2 ⟨hm, hq⟩)]
      simp [Option.filter, hq]
    · have : getA (l.filter q) x = none := getA_none.2 fun u hu => by
        obtain ⟨h1, h2⟩ := List.mem_filter.1 hu
        have := (getA_some h).2 h1
        rw [e] at this; cases this
        exact hq h2
      rw [this]
      simp [Option.filter, hq]
theorem getA_del {l : List (Int × α)} (h : OnceA l) (x k : Int) : getA (delA l x) k = if k = x then none else getA l k := by
  unfold delA
  rw [getA_filter h]
  by_cases e : k = x
  · rw [if_pos e]
    cases getA l k <;> simp [Option.filter, e]
  · rw [if_neg e]
    cases getA l k <;> simp [Option.filter, e]
theorem getA_put {l : List (Int × α)} (h : OnceA l) (x : Int) (v : α) (k : Int) : getA (putA l x v) k = if k = x then some v else getA l k := by
  by_cases e : k = x
  · rw [if_pos e, getA_some (h.put x v)]
    exact mem_putA.2 (.inr ⟨e, rfl⟩)
  · rw [if_neg e]
    cases e2 : getA l k with
    | none =>
      refine getA_none.2 fun u hu => ?_
      rcases mem_putA.1 hu with ⟨h1, -⟩ | ⟨h1, -⟩
      · exact getA_none.1 e2 u h1
      · exact e h1
    | some u => exact (getA_some (h.put x v)).2 (mem_putA.2 (.inl ⟨getA_mem e2, e⟩))
theorem del_lenA {l : List (Int × α)} (x : Int) : (delA l x).length ≤ l.length := List.length_filter_le _ _
theorem put_lenA {l : List (Int × α)} (x : Int) (v : α) : (putA l x v).length ≤ l.length + 1 := by
  unfold putA
  rw [List.length_append]
  have := del_lenA (l := l) x
  simp; omega
theorem permA {l m : List (Int × α)} (h : OnceA l) (k : OnceA m) (e : ∀ x, getA l x = getA m x) : l.Perm m := by
  have nd : ∀ {l : List (Int × α)}, OnceA l → l.Nodup := fun {l} h => by
    unfold OnceA at h
    exact (List.pairwise_map.1 h).imp fun hne e => hne (by rw [e])
  refine (List.perm_ext_iff_of_nodup (nd h) (nd k)).2 fun ⟨x, v⟩ => ?_
  rw [← getA_some h, ← getA_some k, e]
variable (f : α → Value)
theorem enc_once {l : List (Int × α)} : OnceM (encA f l) ↔ OnceA l := by
  unfold OnceM encA OnceA
  rw [List.map_map]
  exact Iff.rfl
theorem enc_get (l : List (Int × α)) (x : Int) : getM (encA f l) x = (getA l x).map f := by
  unfold getM encA getA
  rw [List.find?_map, Option.map_map, Option.map_map]
  rfl
theorem enc_del (l : List (Int × α)) (x : Int) : delM (encA f l) x = encA f (delA l x) := by
  unfold delM encA delA
  rw [List.filter_map]
  rfl
theorem enc_put (l : List (Int × α)) (x : Int) (v : α) : putM (encA f l) x (f v) = encA f (putA l x v) := by
  unfold putM
  rw [enc_del]
  unfold encA putA
  rw [List.map_append]
  rfl
theorem enc_len (l : List (Int × α)) : (encA f l).length = l.length := List.length_map ..
theorem enc_mem {l : List (Int × α)} {x : Int} {u : Value} : (x, u) ∈ encA f l ↔ ∃ v, (x, v) ∈ l ∧ u = f v := by
  unfold encA
  rw [List.mem_map]
  constructor
  · rintro ⟨⟨y, v⟩, h, e⟩
    cases e
    exact ⟨v, h, rfl⟩
  · rintro ⟨v, h, rfl⟩
    exact ⟨(x, v), h, rfl⟩
end
end Go.Proofs.YtknppiebncdjmaaGreat
