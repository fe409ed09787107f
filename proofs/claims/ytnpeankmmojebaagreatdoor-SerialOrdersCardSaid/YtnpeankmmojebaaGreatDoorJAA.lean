import Derived.Test.YtnpeankmmojebaaGreatDoorProg
import Derived.Shelf.SlGeneric
import Derived.Shelf.SlIterI.Nil
import Derived.Ground.GgzProg
import Derived.Shelf.SortM.Plain
import Derived.Shelf.SortM.SortNone
import Derived.Ground.SlgmProg
import Derived.WalkKit
import Derived.WalkSpells
import Derived.Lib.Hide
import Derived.Handy
import Derived.Deep.Draws
/- Layer 11: slices.Sorted and slices.Sort at int, laid in plain words (numbers of this seat). -/
set_option linter.unusedVariables false
namespace Go.Proofs
set_option maxRecDepth 100000
open Go.Shelf
def Tryz.sortedI_ren : Go.Shelf.Ren := ⟨fun | 6 => 45 | 8 => 65 | 9 => 66 | 11 => 74 | 13 => 72 | 12 => 75 | 23 => 85 | 24 => 86 | 14 => 87 | 15 => 88 | 16 => 89 | 17 => 90 | 18 => 91 | 19 => 92 | 20 => 93 | 21 => 94 | 22 => 95 | 25 => 109 | 26 => 105 | 27 => 106 | 28 => 110 | 29 => 111 | 30 => 73 | 31 => 116 | n => n, fun | 26 => 3 | 28 => 86 | 24 => 22 | 0 => 0 | 3 => 3 | 37 => 114 | 48 => 127 | 50 => 107 | 4 => 4 | 40 => 121 | 39 => 120 | 45 => 92 | 5 => 5 | 9 => 9 | 51 => 139 | 55 => 143 | 57 => 149 | 58 => 150 | 33 => 102 | n => n, fun | n => n⟩
theorem Tryz.sortedI : Go.Proofs.SlLaysZI.n6 Tryz.prog Tryz.sortedI_ren := {
  mixed := by kernel_rfl
  f6 := ⟨Tryz.f45.name, by decide, Tryz.func45.trans (congrArg some (by kernel_rfl))⟩
  f8 := ⟨Tryz.f65.name, by decide, Tryz.func65.trans (congrArg some (by kernel_rfl))⟩
  f11 := ⟨Tryz.f74.name, by decide, Tryz.func74.trans (congrArg some (by kernel_rfl))⟩
  t0 := Tryz.underlying0
  a0 := Tryz.isAgg0
  z0 := Tryz.sizeOf0
  v0 := Tryz.zeroValue0
  t24 := Tryz.underlying22
  a24 := Tryz.isAgg22
  z24 := Tryz.sizeOf22
  v24 := Tryz.zeroValue22
  t26 := Tryz.underlying3
  a26 := Tryz.isAgg3
  z26 := Tryz.sizeOf3
  v26 := Tryz.zeroValue3
  t28 := Tryz.underlying86
  a28 := Tryz.isAgg86
  z28 := Tryz.sizeOf86
  v28 := Tryz.zeroValue86
  i26 := by kernel_rfl }
def Tryz.sortI_ren : Go.Shelf.Ren := ⟨fun | 5 => 66 | 8 => 72 | 7 => 75 | 19 => 85 | 20 => 86 | 10 => 87 | 11 => 88 | 12 => 89 | 13 => 90 | 14 => 91 | 15 => 92 | 16 => 93 | 17 => 94 | 18 => 95 | 30 => 109 | 31 => 105 | 32 => 106 | 33 => 110 | 34 => 111 | 35 => 73 | 40 => 116 | n => n, fun | 23 => 22 | 25 => 3 | 3 => 3 | 32 => 114 | 22 => 22 | 0 => 0 | 44 => 127 | 46 => 107 | 4 => 4 | 36 => 121 | 35 => 120 | 41 => 92 | 5 => 5 | 9 => 9 | 53 => 139 | 57 => 143 | 63 => 149 | 64 => 150 | n => n, fun | n => n⟩
theorem Tryz.sortI : Go.Proofs.SlLaysM.n5 Tryz.prog Tryz.sortI_ren := {
  mixed := by kernel_rfl
  f5 := ⟨Tryz.f66.name, by decide, Tryz.func66.trans (congrArg some (by kernel_rfl))⟩
  f7 := ⟨Tryz.f75.name, by decide, Tryz.func75.trans (congrArg some (by kernel_rfl))⟩
  f8 := Tryz.func72.trans (congrArg some (by kernel_rfl))
  f10 := ⟨Tryz.f87.name, by decide, Tryz.func87.trans (congrArg some (by kernel_rfl))⟩
  f11 := ⟨Tryz.f88.name, by decide, Tryz.func88.trans (congrArg some (by kernel_rfl))⟩
  f12 := ⟨Tryz.f89.name, by decide, Tryz.func89.trans (congrArg some (by kernel_rfl))⟩
  f13 := ⟨Tryz.f90.name, by decide, Tryz.func90.trans (congrArg some (by kernel_rfl))⟩
  f14 := ⟨Tryz.f91.name, by decide, Tryz.func91.trans (congrArg some (by kernel_rfl))⟩
  f15 := ⟨Tryz.f92.name, by decide, Tryz.func92.trans (congrArg some (by kernel_rfl))⟩
  f16 := ⟨Tryz.f93.name, by decide, Tryz.func93.trans (congrArg some (by kernel_rfl))⟩
  f17 := ⟨Tryz.f94.name, by decide, Tryz.func94.trans (congrArg some (by kernel_rfl))⟩
  f18 := ⟨Tryz.f95.name, by decide, Tryz.func95.trans (congrArg some (by kernel_rfl))⟩
  f19 := Tryz.func85.trans (congrArg some (by kernel_rfl))
  f20 := Tryz.func86.trans (congrArg some (by kernel_rfl))
  f30 := ⟨Tryz.f109.name, by decide, Tryz.func109.trans (congrArg some (by kernel_rfl))⟩
  f31 := Tryz.func105.trans (congrArg some (by kernel_rfl))
  f32 := Tryz.func106.trans (congrArg some (by kernel_rfl))
  f33 := ⟨Tryz.f110.name, by decide, Tryz.func110.trans (congrArg some (by kernel_rfl))⟩
  f34 := ⟨Tryz.f111.name, by decide, Tryz.func111.trans (congrArg some (by kernel_rfl))⟩
  f35 := ⟨Tryz.f73.name, by decide, Tryz.func73.trans (congrArg some (by kernel_rfl))⟩
  f40 := ⟨Tryz.f116.name, by decide, Tryz.func116.trans (congrArg some (by kernel_rfl))⟩
  t0 := Tryz.underlying0
  a0 := Tryz.isAgg0
  z0 := Tryz.sizeOf0
  v0 := Tryz.zeroValue0
  t3 := Tryz.underlying3
  a3 := Tryz.isAgg3
  z3 := Tryz.sizeOf3
  v3 := Tryz.zeroValue3
  t4 := Tryz.underlying4
  a4 := Tryz.isAgg4
  z4 := Tryz.sizeOf4
  v4 := Tryz.zeroValue4
  t5 := Tryz.underlying5
  a5 := Tryz.isAgg5
  z5 := Tryz.sizeOf5
  v5 := Tryz.zeroValue5
  t9 := Tryz.underlying9
  a9 := Tryz.isAgg9
  z9 := Tryz.sizeOf9
  v9 := Tryz.zeroValue9
  t22 := Tryz.underlying22
  a22 := Tryz.isAgg22
  z22 := Tryz.sizeOf22
  v22 := Tryz.zeroValue22
  t23 := Tryz.underlying22
  a23 := Tryz.isAgg22
  z23 := Tryz.sizeOf22
  v23 := Tryz.zeroValue22
  t25 := Tryz.underlying3
  a25 := Tryz.isAgg3
  z25 := Tryz.sizeOf3
  v25 := Tryz.zeroValue3
  t32 := Tryz.underlying114
  a32 := Tryz.isAgg114
  z32 := Tryz.sizeOf114
  v32 := Tryz.zeroValue114
  t35 := Tryz.underlying120
  a35 := Tryz.isAgg120
  z35 := Tryz.sizeOf120
  v35 := Tryz.zeroValue120
  t36 := Tryz.underlying121
  a36 := Tryz.isAgg121
  z36 := Tryz.sizeOf121
  v36 := Tryz.zeroValue121
  t41 := Tryz.underlying92
  a41 := Tryz.isAgg92
  z41 := Tryz.sizeOf92
  v41 := Tryz.zeroValue92
  t44 := Tryz.underlying127
  a44 := Tryz.isAgg127
  z44 := Tryz.sizeOf127
  v44 := Tryz.zeroValue127
  t46 := Tryz.underlying107
  a46 := Tryz.isAgg107
  z46 := Tryz.sizeOf107
  v46 := Tryz.zeroValue107
  t53 := Tryz.underlying139
  a53 := Tryz.isAgg139
  z53 := Tryz.sizeOf139
  v53 := Tryz.zeroValue139
  t57 := Tryz.underlying143
  a57 := Tryz.isAgg143
  z57 := Tryz.sizeOf143
  v57 := Tryz.zeroValue143
  t63 := Tryz.underlying149
  a63 := Tryz.isAgg149
  z63 := Tryz.sizeOf149
  v63 := Tryz.zeroValue149
  t64 := Tryz.underlying150
  a64 := Tryz.isAgg150
  z64 := Tryz.sizeOf150
  v64 := Tryz.zeroValue150 }
end Go.Proofs

/- Words for memory that the proofs over package wire share: a slice of bytes that reads as a list of numbers; no program is named here. -/
namespace Go.Proofs.YtnpeankmmojebaaGreatDoor
set_option maxRecDepth 100000
open Go.RowKit

theorem block_add (a : Addr) (n : Nat) : (a.add n).block = a.block := by unfold Addr.add; split <;> rfl
theorem add_add (a : Addr) (i j : Nat) : (a.add i).add j = a.add (i + j) := by
  unfold Addr.add
  by_cases hi : i = 0 <;> by_cases hj : j = 0 <;> simp [hi, hj, Nat.add_assoc]

/-- The slice of address A and length n reads as the bytes zs. -/
structure RB (w : World) (A : Option Addr) (n : Nat) (zs : List Int) : Prop where
  len : zs.length = n
  byte : ∀ z ∈ zs, 0 ≤ z ∧ z ≤ 255
  cell : 0 < n → ∃ ad, A = some ad ∧ ∀ j, j < n → w.cell? (ad.add j) = some (.int .u8 (zs.getD j 0))

section
variable {w w' : World} {A : Option Addr} {n : Nat} {zs : List Int}
theorem RB.getD (h : RB w A n zs) (j : Nat) : 0 ≤ zs.getD j 0 ∧ zs.getD j 0 ≤ 255 := by
  by_cases hj : j < zs.length
  · have := h.byte (zs.getD j 0) (by simp [List.getD_eq_getElem?_getD, List.getElem?_eq_getElem hj])
    exact this
  · simp [List.getD_eq_getElem?_getD, List.getElem?_eq_none (by omega : zs.length ≤ j)]
theorem RB.at_ {k : Nat} (h : RB w A n zs) (hk : k < n) : ∃ ad, A = some ad ∧ w.cell? (ad.add k) = some (.int .u8 (zs.getD k 0)) := by
  obtain ⟨ad, e, hc⟩ := h.cell (by omega)
  exact ⟨ad, e, hc k hk⟩
theorem RB.keep (h : RB w A n zs) (hk : ∀ (p : Addr) v, w.cell? p = some v → w'.cell? p = some v) : RB w' A n zs :=
  ⟨h.len, h.byte, fun hn => by
    obtain ⟨ad, e, hc⟩ := h.cell hn
    exact ⟨ad, e, fun j hj => hk _ _ (hc j hj)⟩⟩
theorem RB.below {B : Nat} (h : RB w A n zs) (hb : Below B w w') (hB : w.heap.size ≤ B) : RB w' A n zs :=
  h.keep fun p _ hp => (hb.cell (Nat.lt_of_lt_of_le (World.block_lt_of_cell? w p hp) hB)).trans hp
theorem RB.below' (h : RB w A n zs) (hb : Below w.heap.size w w') : RB w' A n zs := h.below hb (Nat.le_refl _)
theorem RB.drew (h : RB w A n zs) : RB w.drew A n zs := ⟨h.len, h.byte, h.cell⟩
theorem RB.drewN (h : RB w A n zs) (k : Nat) : RB (w.drewN k) A n zs := ⟨h.len, h.byte, h.cell⟩
theorem RB.cut {k : Nat} (h : RB w A n zs) (hk : k ≤ n) (cap : Nat) (hc : n ≤ cap) :
    RB w (if cap = k then A else A.map (·.add k)) (n - k) (zs.drop k) := by
  refine ⟨by rw [List.length_drop, h.len], fun z hz => h.byte z (List.mem_of_mem_drop hz), fun hn => ?_⟩
  obtain ⟨ad, rfl, hcell⟩ := h.cell (by omega)
  rw [if_neg (by omega)]
  refine ⟨ad.add k, rfl, fun j hj => ?_⟩
  rw [add_add, hcell (k + j) (by omega)]
  simp [List.getD_eq_getElem?_getD, List.getElem?_drop]
theorem RB.take {k : Nat} (h : RB w A n zs) (hk : k ≤ n) : RB w A k (zs.take k) := by
  refine ⟨by rw [List.length_take, h.len]; omega, fun z hz => h.byte z (List.mem_of_mem_take hz), fun hn => ?_⟩
  obtain ⟨ad, rfl, hcell⟩ := h.cell (by omega)
  refine ⟨ad, rfl, fun j hj => ?_⟩
  rw [hcell j (by omega)]
  simp [List.getD_eq_getElem?_getD, hj]
end

theorem RB.block {w : World} {g : Nat} {zs : List Int} {e : TypeId} {fr : Nat × Nat} (hb : ∀ z ∈ zs, 0 ≤ z ∧ z ≤ 255) (h : w.heap[g]? = some (.cells (zs.map (Value.int .u8)).toArray e fr)) :
    RB w (some ⟨g, 0, none⟩) zs.length zs := by
  refine ⟨rfl, hb, fun _ => ⟨_, rfl, fun j hj => ?_⟩⟩
  have hadd : (⟨g, 0, none⟩ : Addr).add j = ⟨g, j, none⟩ := by unfold Addr.add; split <;> simp_all
  rw [hadd, cell_of_row w g j _ e fr h]
  simp [List.getD_eq_getElem?_getD, List.getElem?_eq_getElem hj]
theorem RB.new (w : World) {zs : List Int} {e : TypeId} {fr : Nat × Nat} (hb : ∀ z ∈ zs, 0 ≤ z ∧ z ≤ 255) :
    RB (w.alloc (.cells (zs.map (Value.int .u8)).toArray e fr)) (some ⟨w.heap.size, 0, none⟩) zs.length zs :=
  RB.block hb (heap_alloc_new w _)
theorem below_next {w w1 w2 : World} (h : Below w.heap.size w w1) (h2 : Below w1.heap.size w1 w2) : Below w.heap.size w w2 := h.trans (h2.mono h.size)
theorem keep_below {w w' : World} {p : Addr} {v : Value} (h : w.cell? p = some v) (hb : Below w.heap.size w w') : w'.cell? p = some v :=
  (hb.cell (World.block_lt_of_cell? w p h)).trans h
theorem RB.empty (w : World) (A : Option Addr) : RB w A 0 [] := ⟨rfl, by simp, fun h => absurd h (by omega)⟩

end Go.Proofs.YtnpeankmmojebaaGreatDoor

/- Plain lists: the order of texts. -/
namespace Go.Proofs.YtnpeankmmojebaaGreatDoor
set_option maxRecDepth 100000

/-- One text is below another. -/
def klB (a b : ByteArray) : Bool := Op.bytesLess a.toList b.toList
theorem bl_irrefl8 : ∀ x : List UInt8, Op.bytesLess x x = false
  | [] => rfl
  | a :: x => by simp [Op.bytesLess, bl_irrefl8 x]
theorem bl_trans8 : ∀ x y z : List UInt8, Op.bytesLess x y = true → Op.bytesLess y z = true → Op.bytesLess x z = true
  | _, [], _, h, _ => by cases ‹List UInt8› <;> simp [Op.bytesLess] at h
  | _, _ :: _, [], _, h => by simp [Op.bytesLess] at h
  | [], _ :: _, _ :: _, _, _ => rfl
  | a :: x, b :: y, c :: z, h1, h2 => by
    simp only [Op.bytesLess, Bool.or_eq_true, Bool.and_eq_true, decide_eq_true_eq, beq_iff_eq] at h1 h2 ⊢
    rcases h1 with h1 | ⟨rfl, h1⟩
    · rcases h2 with h2 | ⟨rfl, h2⟩
      · exact .inl (UInt8.lt_trans h1 h2)
      · exact .inl h1
    · rcases h2 with h2 | ⟨rfl, h2⟩
      · exact .inl h2
      · exact .inr ⟨rfl, bl_trans8 x y z h1 h2⟩
theorem bl_tri8 : ∀ x y : List UInt8, Op.bytesLess x y = false → Op.bytesLess y x = false → x = y
  | [], [], _, _ => rfl
  | [], _ :: _, h, _ => by simp [Op.bytesLess] at h
  | _ :: _, [], _, h => by simp [Op.bytesLess] at h
  | a :: x, b :: y, h1, h2 => by
    simp only [Op.bytesLess, Bool.or_eq_false_iff, decide_eq_false_iff_not, Bool.and_eq_false_iff, beq_eq_false_iff_ne] at h1 h2
    have hab : a = b := by
      have h3 := h1.1
      have h4 := h2.1
      rw [UInt8.lt_iff_toNat_lt] at h3 h4
      exact UInt8.toNat_inj.1 (by omega)
    subst hab
    have h3 : Op.bytesLess x y = false := by rcases h1.2 with h | h <;> simp_all
    have h4 : Op.bytesLess y x = false := by rcases h2.2 with h | h <;> simp_all
    rw [bl_tri8 x y h3 h4]
theorem klB_irrefl (a : ByteArray) : klB a a = false := bl_irrefl8 _
theorem klB_trans {a b c : ByteArray} (h1 : klB a b = true) (h2 : klB b c = true) : klB a c = true := bl_trans8 _ _ _ h1 h2
theorem ba_toList_inj8 {a b : ByteArray} (h : a.toList = b.toList) : a = b := by
  rw [ByteArray.toList_eq, ByteArray.toList_eq] at h
  cases a; cases b
  simpa using h
theorem klB_tri {a b : ByteArray} (h1 : klB a b = false) (h2 : klB b a = false) : a = b := ba_toList_inj8 (bl_tri8 _ _ h1 h2)
theorem klB_asymm {a b : ByteArray} (h : klB a b = true) : klB b a = false := by
  cases h2 : klB b a
  · rfl
  · have := klB_trans h h2; rw [klB_irrefl] at this; cases this
theorem klB_lt_le {a b c : ByteArray} (h1 : klB a b = true) (h2 : klB c b = false) : klB a c = true := by
  cases h3 : klB a c
  · rcases hcb : klB b c with _ | _
    · have := klB_tri h2 hcb; subst this; rw [h1] at h3; cases h3
    · rw [klB_trans h1 hcb] at h3; cases h3
  · rfl
theorem klB_le_lt {a b c : ByteArray} (h1 : klB b a = false) (h2 : klB b c = true) : klB a c = true := by
  cases h3 : klB a c
  · rcases hab : klB a b with _ | _
    · have := klB_tri hab h1; subst this; rw [h2] at h3; cases h3
    · rw [klB_trans hab h2] at h3; cases h3
  · rfl
theorem toList_beq8 (a b : ByteArray) : (a.toList == b.toList) = decide (a = b) := by
  by_cases h : a = b
  · subst h; simp
  · simp only [h, decide_false, beq_eq_false_iff_ne, ne_eq]
    exact fun e => h (ba_toList_inj8 e)
/-- What is below a text with a byte 0 behind is not above the text. -/
theorem bl_zero8 : ∀ k l : List UInt8, Op.bytesLess k (l ++ [0]) = !Op.bytesLess l k
  | [], [] => by simp [Op.bytesLess]
  | [], b :: l => by simp [Op.bytesLess]
  | a :: k, [] => by
    have h : ¬ a < 0 := UInt8.not_lt.2 (UInt8.zero_le)
    cases k <;> simp [Op.bytesLess, h]
  | a :: k, b :: l => by
    have ih := bl_zero8 k l
    show (decide (a < b) || (a == b && Op.bytesLess k (l ++ [0]))) = !(decide (b < a) || (b == a && Op.bytesLess l k))
    rw [ih]
    by_cases h1 : a < b
    · have h2 : ¬ b < a := fun h => UInt8.lt_irrefl a (UInt8.lt_trans h1 h)
      have h3 : ¬ b = a := fun e => by subst e; exact UInt8.lt_irrefl _ h1
      simp [h1, h2, h3]
    · by_cases h2 : b < a
      · have h3 : ¬ a = b := fun e => by subst e; exact UInt8.lt_irrefl _ h2
        simp [h1, h2, h3]
      · have h3 : a = b := UInt8.le_antisymm (UInt8.not_lt.1 h2) (UInt8.not_lt.1 h1)
        subst h3
        simp [UInt8.lt_irrefl]
theorem klB_zero (k l : ByteArray) : klB k (l ++ ⟨#[0]⟩) = !klB l k := by
  unfold klB
  rw [← bl_zero8]
  congr 1
  rw [ByteArray.toList_eq, ByteArray.toList_eq, ByteArray.data_append, Array.toList_append]
theorem nil_toList : (⟨#[]⟩ : ByteArray).toList = [] := by rw [ByteArray.toList_eq]
def isE (a : ByteArray) : Bool := a.toList == []
theorem isE_is (a : ByteArray) : isE a = decide (a = ⟨#[]⟩) := by
  unfold isE
  rw [← toList_beq8, nil_toList]
theorem klB_nil (a : ByteArray) : klB a ⟨#[]⟩ = false := by
  unfold klB
  rw [nil_toList]
  cases a.toList <;> rfl
theorem bl_le8 (a b : ByteArray) : klB b a = !(Op.bytesLess a.toList b.toList || a.toList == b.toList) := by
  show klB b a = !(klB a b || a.toList == b.toList)
  rw [toList_beq8]
  by_cases e : a = b
  · subst e; simp [klB_irrefl]
  · cases h1 : klB a b with
    | true => simp [klB_asymm h1]
    | false =>
      cases h2 : klB b a with
      | true => simp [e]
      | false => exact absurd (klB_tri h1 h2) e
end Go.Proofs.YtnpeankmmojebaaGreatDoor
