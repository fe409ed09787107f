import Derived.Test.YtnpeankmmojebaaGreatDoorProg
import Derived.Shelf.SlGeneric
import Derived.Shelf.SlIterI.Nil
import Derived.Ground.GgzProg
import Derived.Shelf.SortM.Plain
import Derived.Shelf.SortM.SortNone
import Derived.Ground.SlgmProg
import Derived.Test.YtnpeankmmojebaaGreatDoorJAA
import Derived.Test.YtnpeankmmojebaaGreatDoorJAB
/- Layer 11: slices.Sorted and slices.Sort at int, laid in plain words (numbers of this seat). -/
set_option linter.unusedVariables false
namespace Go.Proofs
set_option maxRecDepth 100000
open Go.Shelf
def Tryz.sortedI_ren : Go.Shelf.Ren := ⟨fun | 6 => 45 | 8 => 65 | 9 => 66 | 11 => 74 | 13 => 72 | 12 => 75 | 23 => 85 | 24 => 86 | 14 => 87 | 15 => 88 | 16 => 89 | 17 => 90 | 18 => 91 | 19 => 92 | 20 => 93 | 21 => 94 | 22 => 95 | 25 => 109 | 26 => 105 | 27 => 106 | 28 => 110 | 29 => 111 | 30 => 73 | 31 => 116 | n => n, fun | 26 => 3 | 28 => 86 | 24 => 22 | 0 => 0 | 3 => 3 | 37 => 114 | 48 => 127 | 50 => 107 | 4 => 4 | 40 => 121 | 39 => 120 | 45 => 92 | 5 => 5 | 9 => 9 | 51 => 139 | 55 => 143 | 57 => 149 | 58 => 150 | 33 => 102 | n => n, fun | n => n⟩
theorem Tryz.sortedI : Go.Proofs.SlLaysZI.n6 Tryz.prog Tryz.sortedI_ren := {
  mixed := by kernel_rfl
  f6 := ⟨Tryz.f45.name, by decide, Tryz.func45.trans (congrArg some (by kernel_rfl))⟩
  f8 := ⟨Tryz.f65.name, by decide, Tryz.func65.trans (congrArg some (by kernel_rfl))⟩
  f11 := ⟨Tryz.f74.name, by decide, Tryz.func74.trans (congrArg some (by kernel_rfl))⟩
  t0 := Tryz.underlying0
  a0 := Tryz.isAgg0
  z0 := Tryz.sizeOf0
  v0 := Tryz.zeroValue0
  t24 := Tryz.underlying22
  a24 := Tryz.isAgg22
  z24 := Tryz.sizeOf22
  v24 := Tryz.zeroValue22
  t26 := Tryz.underlying3
  a26 := Tryz.isAgg3
  z26 := Tryz.sizeOf3
  v26 := Tryz.zeroValue3
  t28 := Tryz.underlying86
  a28 := Tryz.isAgg86
  z28 := Tryz.sizeOf86
  v28 := Tryz.zeroValue86
  i26 := by kernel_rfl }
def Tryz.sortI_ren : Go.Shelf.Ren := ⟨fun | 5 => 66 | 8 => 72 | 7 => 75 | 19 => 85 | 20 => 86 | 10 => 87 | 11 => 88 | 12 => 89 | 13 => 90 | 14 => 91 | 15 => 92 | 16 => 93 | 17 => 94 | 18 => 95 | 30 => 109 | 31 => 105 | 32 => 106 | 33 => 110 | 34 => 111 | 35 => 73 | 40 => 116 | n => n, fun | 23 => 22 | 25 => 3 | 3 => 3 | 32 => 114 | 22 => 22 | 0 => 0 | 44 => 127 | 46 => 107 | 4 => 4 | 36 => 121 | 35 => 120 | 41 => 92 | 5 => 5 | 9 => 9 | 53 => 139 | 57 => 143 | 63 => 149 | 64 => 150 | n => n, fun | n => n⟩
theorem Tryz.sortI : Go.Proofs.SlLaysM.n5 Tryz.prog Tryz.sortI_ren := {
  mixed := by kernel_rfl
  f5 := ⟨Tryz.f66.name, by decide, Tryz.func66.trans (congrArg some (by kernel_rfl))⟩
  f7 := ⟨Tryz.f75.name, by decide, Tryz.func75.trans (congrArg some (by kernel_rfl))⟩
  f8 := Tryz.func72.trans (congrArg some (by kernel_rfl))
  f10 := ⟨Tryz.f87.name, by decide, Tryz.func87.trans (congrArg some (by kernel_rfl))⟩
  f11 := ⟨Tryz.f88.name, by decide, Tryz.func88.trans (congrArg some (by kernel_rfl))⟩
  f12 := ⟨Tryz.f89.name, by decide, Tryz.func89.trans (congrArg some (by kernel_rfl))⟩
  f13 := ⟨Tryz.f90.name, by decide, Tryz.func90.trans (congrArg some (by kernel_rfl))⟩
  f14 := ⟨Tryz.f91.name, by decide, Tryz.func91.trans (congrArg some (by kernel_rfl))⟩
  f15 := ⟨Tryz.f92.name, by decide, Tryz.func92.trans (congrArg some (by kernel_rfl))⟩
  f16 := ⟨Tryz.f93.name, by decide, Tryz.func93.trans (congrArg some (by kernel_rfl))⟩
  f17 := ⟨Tryz.f94.name, by decide, Tryz.func94.trans (congrArg some (by kernel_rfl))⟩
  f18 := ⟨Tryz.f95.name, by decide, Tryz.func95.trans (congrArg some (by kernel_rfl))⟩
  f19 := Tryz.func85.trans (congrArg some (by kernel_rfl))
  f20 := Tryz.func86.trans (congrArg some (by kernel_rfl))
  f30 := ⟨Tryz.f109.name, by decide, Tryz.func109.trans (congrArg some (by kernel_rfl))⟩
  f31 := Tryz.func105.trans (congrArg some (by kernel_rfl))
  f32 := Tryz.func106.trans (congrArg some (by kernel_rfl))
  f33 := ⟨Tryz.f110.name, by decide, Tryz.func110.trans (congrArg some (by kernel_rfl))⟩
  f34 := ⟨Tryz.f111.name, by decide, Tryz.func111.trans (congrArg some (by kernel_rfl))⟩
  f35 := ⟨Tryz.f73.name, by decide, Tryz.func73.trans (congrArg some (by kernel_rfl))⟩
  f40 := ⟨Tryz.f116.name, by decide, Tryz.func116.trans (congrArg some (by kernel_rfl))⟩
  t0 := Tryz.underlying0
  a0 := Tryz.isAgg0
  z0 := Tryz.sizeOf0
  v0 := Tryz.zeroValue0
  t3 := Tryz.underlying3
  a3 := Tryz.isAgg3
  z3 := Tryz.sizeOf3
  v3 := Tryz.zeroValue3
  t4 := Tryz.underlying4
  a4 := Tryz.isAgg4
  z4 := Tryz.sizeOf4
  v4 := Tryz.zeroValue4
  t5 := Tryz.underlying5
  a5 := Tryz.isAgg5
  z5 := Tryz.sizeOf5
  v5 := Tryz.zeroValue5
  t9 := Tryz.underlying9
  a9 := Tryz.isAgg9
  z9 := Tryz.sizeOf9
  v9 := Tryz.zeroValue9
  t22 := Tryz.underlying22
  a22 := Tryz.isAgg22
  z22 := Tryz.sizeOf22
  v22 := Tryz.zeroValue22
  t23 := Tryz.underlying22
  a23 := Tryz.isAgg22
  z23 := Tryz.sizeOf22
  v23 := Tryz.zeroValue22
  t25 := Tryz.underlying3
  a25 := Tryz.isAgg3
  z25 := Tryz.sizeOf3
  v25 := Tryz.zeroValue3
  t32 := Tryz.underlying114
  a32 := Tryz.isAgg114
  z32 := Tryz.sizeOf114
  v32 := Tryz.zeroValue114
  t35 := Tryz.underlying120
  a35 := Tryz.isAgg120
  z35 := Tryz.sizeOf120
  v35 := Tryz.zeroValue120
  t36 := Tryz.underlying121
  a36 := Tryz.isAgg121
  z36 := Tryz.sizeOf121
  v36 := Tryz.zeroValue121
  t41 := Tryz.underlying92
  a41 := Tryz.isAgg92
  z41 := Tryz.sizeOf92
  v41 := Tryz.zeroValue92
  t44 := Tryz.underlying127
  a44 := Tryz.isAgg127
  z44 := Tryz.sizeOf127
  v44 := Tryz.zeroValue127
  t46 := Tryz.underlying107
  a46 := Tryz.isAgg107
  z46 := Tryz.sizeOf107
  v46 := Tryz.zeroValue107
  t53 := Tryz.underlying139
  a53 := Tryz.isAgg139
  z53 := Tryz.sizeOf139
  v53 := Tryz.zeroValue139
  t57 := Tryz.underlying143
  a57 := Tryz.isAgg143
  z57 := Tryz.sizeOf143
  v57 := Tryz.zeroValue143
  t63 := Tryz.underlying149
  a63 := Tryz.isAgg149
  z63 := Tryz.sizeOf149
  v63 := Tryz.zeroValue149
  t64 := Tryz.underlying150
  a64 := Tryz.isAgg150
  z64 := Tryz.sizeOf150
  v64 := Tryz.zeroValue150 }
end Go.Proofs

/- Plain lists: the order of texts. -/
namespace Go.Proofs.YtnpeankmmojebaaGreatDoor
set_option maxRecDepth 100000

/-- One text is below another. -/
def klB (a b : ByteArray) : Bool := Op.bytesLess a.toList b.toList
theorem bl_irrefl8 : ∀ x : List UInt8, Op.bytesLess x x = false
  | [] => rfl
  | a :: x => by simp [Op.bytesLess, bl_irrefl8 x]
theorem bl_trans8 : ∀ x y z : List UInt8, Op.bytesLess x y = true → Op.bytesLess y z = true → Op.bytesLess x z = true
  | _, [], _, h, _ => by cases ‹List UInt8› <;> simp [Op.bytesLess] at h
  | _, _ :: _, [], _, h => by simp [Op.bytesLess] at h
  | [], _ :: _, _ :: _, _, _ => rfl
  | a :: x, b :: y, c :: z, h1, h2 => by
    simp only [Op.bytesLess, Bool.or_eq_true, Bool.and_eq_true, decide_eq_true_eq, beq_iff_eq] at h1 h2 ⊢
    rcases h1 with h1 | ⟨rfl, h1⟩
    · rcases h2 with h2 | ⟨rfl, h2⟩
      · exact .inl (UInt8.lt_trans h1 h2)
      · exact .inl h1
    · rcases h2 with h2 | ⟨rfl, h2⟩
      · exact .inl h2
      · exact .inr ⟨rfl, bl_trans8 x y z h1 h2⟩
theorem bl_tri8 : ∀ x y : List UInt8, Op.bytesLess x y = false → Op.bytesLess y x = false → x = y
  | [], [], _, _ => rfl
  | [], _ :: _, h, _ => by simp [Op.bytesLess] at h
  | _ :: _, [], _, h => by simp [Op.bytesLess] at h
  | a :: x, b :: y, h1, h2 => by
    simp only [Op.bytesLess, Bool.or_eq_false_iff, decide_eq_false_iff_not, Bool.and_eq_false_iff, beq_eq_false_iff_ne] at h1 h2
    have hab : a = b := by
      have h3 := h1.1
      have h4 := h2.1
      rw [UInt8.lt_iff_toNat_lt] at h3 h4
      exact UInt8.toNat_inj.1 (by omega)
    subst hab
    have h3 : Op.bytesLess x y = false := by rcases h1.2 with h | h <;> simp_all
    have h4 : Op.bytesLess y x = false := by rcases h2.2 with h | h <;> simp_all
    rw [bl_tri8 x y h3 h4]
theorem klB_irrefl (a : ByteArray) : klB a a = false := bl_irrefl8 _
theorem klB_trans {a b c : ByteArray} (h1 : klB a b = true) (h2 : klB b c = true) : klB a c = true := bl_trans8 _ _ _ h1 h2
theorem ba_toList_inj8 {a b : ByteArray} (h : a.toList = b.toList) : a = b := by
  rw [ByteArray.toList_eq, ByteArray.toList_eq] at h
  cases a; cases b
  simpa using h
theorem klB_tri {a b : ByteArray} (h1 : klB a b = false) (h2 : klB b a = false) : a = b := ba_toList_inj8 (bl_tri8 _ _ h1 h2)
theorem klB_asymm {a b : ByteArray} (h : klB a b = true) : klB b a = false := by
  cases h2 : klB b a
  · rfl
  · have := klB_trans h h2; rw [klB_irrefl] at this; cases this
theorem klB_lt_le {a b c : ByteArray} (h1 : klB a b = true) (h2 : klB c b = false) : klB a c = true := by
  cases h3 : klB a c
  · rcases hcb : klB b c with _ | _
    · have := klB_tri h2 hcb; subst this; rw [h1] at h3; cases h3
    · rw [klB_trans h1 hcb] at h3; cases h3
  · rfl
theorem klB_le_lt {a b c : ByteArray} (h1 : klB b a = false) (h2 : klB b c = true) : klB a c = true := by
  cases h3 : klB a c
  · rcases hab : klB a b with _ | _
    · have := klB_tri hab h1; subst this; rw [h2] at h3; cases h3
    · rw [klB_trans hab h2] at h3; cases h3
  · rfl
theorem toList_beq8 (a b : ByteArray) : (a.toList == b.toList) = decide (a = b) := by
  by_cases h : a = b
  · subst h; simp
  · simp only [h, decide_false, beq_eq_false_iff_ne, ne_eq]
    exact fun e => h (ba_toList_inj8 e)
/-- What is below a text with a byte 0 behind is not above the text. -/
theorem bl_zero8 : ∀ k l : List UInt8, Op.bytesLess k (l ++ [0]) = !Op.bytesLess l k
  | [], [] => by simp [Op.bytesLess]
  | [], b :: l => by simp [Op.bytesLess]
  | a :: k, [] => by
    have h : ¬ a < 0 := UInt8.not_lt.2 (UInt8.zero_le)
    cases k <;> simp [Op.bytesLess, h]
  | a :: k, b :: l => by
    have ih := bl_zero8 k l
    show (decide (a < b) || (a == b && Op.bytesLess k (l ++ [0]))) = !(decide (b < a) || (b == a && Op.bytesLess l k))
    rw [ih]
    by_cases h1 : a < b
    · have h2 : ¬ b < a := fun h => UInt8.lt_irrefl a (UInt8.lt_trans h1 h)
      have h3 : ¬ b = a := fun e => by subst e; exact UInt8.lt_irrefl _ h1
      simp [h1, h2, h3]
    · by_cases h2 : b < a
      · have h3 : ¬ a = b := fun e => by subst e; exact UInt8.lt_irrefl _ h2
        simp [h1, h2, h3]
      · have h3 : a = b := UInt8.le_antisymm (UInt8.not_lt.1 h2) (UInt8.not_lt.1 h1)
        subst h3
        simp [UInt8.lt_irrefl]
theorem klB_zero (k l : ByteArray) : klB k (l ++ ⟨#[0]⟩) = !klB l k := by
  unfold klB
  rw [← bl_zero8]
  congr 1
  rw [ByteArray.toList_eq, ByteArray.toList_eq, ByteArray.data_append, Array.toList_append]
theorem nil_toList : (⟨#[]⟩ : ByteArray).toList = [] := by rw [ByteArray.toList_eq]
def isE (a : ByteArray) : Bool := a.toList == []
theorem isE_is (a : ByteArray) : isE a = decide (a = ⟨#[]⟩) := by
  unfold isE
  rw [← toList_beq8, nil_toList]
theorem klB_nil (a : ByteArray) : klB a ⟨#[]⟩ = false := by
  unfold klB
  rw [nil_toList]
  cases a.toList <;> rfl
theorem bl_le8 (a b : ByteArray) : klB b a = !(Op.bytesLess a.toList b.toList || a.toList == b.toList) := by
  show klB b a = !(klB a b || a.toList == b.toList)
  rw [toList_beq8]
  by_cases e : a = b
  · subst e; simp [klB_irrefl]
  · cases h1 : klB a b with
    | true => simp [klB_asymm h1]
    | false =>
      cases h2 : klB b a with
      | true => simp [e]
      | false => exact absurd (klB_tri h1 h2) e
end Go.Proofs.YtnpeankmmojebaaGreatDoor

/- Layer 11: a range over a function that hands on memory of its own, which a round may write into. -/
namespace Go.Proofs.YtnpeankmmojebaaGreatDoor
set_option maxRecDepth 100000
set_option maxRecDepth 100000
open Go.RowKit

/-- What an iterator's value promises, where the iterator has memory of its own making. -/
def HandsC {α : Type} (F : Fence) (n : Nat) (P : Program) (g : Nat) (lb : Array Value) (encs : α → Array Value) (ok : List α → α → World → Prop) (keep : α → World → World → Prop)
    (all part : List α → Prop) (w : World) : Prop :=
  ∀ (l : Nat) (J Jx : List α → World → Prop) (W : World), Below w.heap.size w W → (∀ s, Stays (J s)) → (∀ s, Stays (Jx s)) → (∀ s A B, J s A → Out (fun k => W.heap.size ≤ k) A B → J s B) →
    (∀ pre x A, J pre A → ok pre x A → YieldAt F (n - 1) P l (encs x) A fun e B =>
      (e = .returned (.bool true) ∧ J (pre ++ [x]) B ∧ keep x A B) ∨ (e = .returned (.bool false) ∧ Jx (pre ++ [x]) B)) →
    J [] W →
    CallsIn F n P g (#[.func (.yield l) #[] #[]] ++ lb) W fun e B => (∃ v, e = .returned v) ∧ ((∃ xs, all xs ∧ J xs B) ∨ (∃ pre, part pre ∧ Jx pre B))
variable {F : Fence} {n : Nat} {P : Program}

theorem wp_handsC {α : Type} {g : Operand} {ps : Array Tmp} {assign body : Code} {Q : Exit → Act → World → Prop} {a : Act} {w : World}
    (hro : F.round = none) (h1 : 1 ≤ n) {gf : Nat} {lb : Array Value} (hg : a.eval g = .func (.func gf) #[] lb) (hFg : F.fn gf) (eg : ∀ args w, (callFunc gf args).run P w = .ok (.enter gf args) w)
    {encs : α → Array Value} {ok : List α → α → World → Prop} {keep : α → World → World → Prop} {all part : List α → Prop} (hs : HandsC F (n - 1) P gf lb encs ok keep all part w)
    (hkt : ∀ {x : α} {A B C : World}, keep x A B → keep x B C → keep x A C) (hkb : ∀ (x : α) (A : World) (l : Nat) (o o' : Obj), w.heap.size ≤ l → A.heap[l]? = some o → o.isCells = false → keep x A (A.putObj l o'))
    (hps : ∀ x, (encs x).size = ps.size) (I : List α → World → Prop) (Ix : Code → List α → World → Prop)
    (hI : ∀ s, Stays (I s)) (hI' : ∀ s, Turns w.heap.size (I s)) (hIT : ∀ s A B, I s A → Out (fun k => w.heap.size + 2 ≤ k) A B → I s B) (hX : ∀ c s, Stays (Ix c s)) (hX' : ∀ c s, Turns w.heap.size (Ix c s)) (hO : ∀ s x, Turns w.heap.size (ok s x)) (h0 : I [] w) (hkB : ∀ (x : α) (A B : World), Below A.heap.size A B → keep x A B) (hOB : ∀ s x, Stays (ok s x)) (Ax : α → Act → World → Prop) (hAx : ∀ x a', Turns w.heap.size (Ax x a'))
    (hassign : ∀ (l : Nat) (x : α) (W : World) (K : Act → World → Prop), w.heap.size ≤ W.heap.size → (∀ a' W', Ax x a' W' → Below W.heap.size W W' → K a' W') →
      assign.wpIn (F.inRound l) (n - 1 - 1) P (Exit.then K (fun _ _ _ => False)) { tmps := (ps.zip (encs x)).foldl (fun t (p, v) => t.setIfInBounds p v) a.tmps, defers := [] } W)
    (hbody : ∀ (l : Nat) (pre : List α) (x : α) (a' : Act) (W : World), w.heap.size ≤ W.heap.size → Ax x a' W → I pre W → ok pre x W → body.wpIn (F.inRound l) (n - 1 - 1) P (ownPostK (keep x) I Ix (pre ++ [x]) W) a' W)
    (hdone : ∀ (D : Nat) (xs : List α) (W : World), w.heap.size ≤ D → all xs → I xs W → W.heap[D]? = some (.deferred (some [])) → Q .normal { a with defers := { target := .collected D, args := #[] } :: a.defers } W)
    (hstop : ∀ (D : Nat) (c : Code) (pre : List α) (W : World), w.heap.size ≤ D → part pre → Ix c pre W → W.heap[D]? = some (.deferred (some [])) → c.wpIn F n P Q { a with defers := { target := .collected D, args := #[] } :: a.defers } W) :
    (Code.rangeFunc g ps assign body).wpIn F n P Q a w := by
  refine wpIn_rangeFunc fun fn hfn => ?_
  rw [hro]
  obtain ⟨D, hD⟩ : ∃ D, D = w.heap.size := ⟨_, rfl⟩
  obtain ⟨W1, hW1⟩ : ∃ W1, W1 = (w.alloc (.deferred (some []))).alloc (.loop { state := .ready, pending := none, fn, tmps := a.tmps, params := ps, assign, body, defers := w.heap.size }) := ⟨_, rfl⟩
  obtain ⟨rc, hrc⟩ : ∃ rc : LoopState → Option Code → Obj, rc = fun st pe => .loop { state := st, pending := pe, fn, tmps := a.tmps, params := ps, assign, body, defers := w.heap.size } := ⟨_, rfl⟩
  have hne : ∀ st pe, (rc st pe).isCells = false := fun st pe => by rw [hrc]; rfl
  have b1 : Below w.heap.size w W1 := by rw [hW1]; exact ((Below.refl _ w).alloc (Nat.le_refl _) _).alloc (by simp) _
  have q1 : W1.heap[D + 1]? = some (rc .ready none) := by
    rw [hW1, hrc, hD]
    have := World.alloc_heap_new (w.alloc (.deferred (some []))) (.loop { state := .ready, pending := none, fn, tmps := a.tmps, params := ps, assign, body, defers := w.heap.size })
    rwa [World.size_alloc] at this
  have q2 : W1.heap[D]? = some (.deferred (some [])) := by
    rw [hW1, hD]
    exact (Below.heap_alloc _ _ _ (by simp)).trans (World.alloc_heap_new w _)
  have hsW1 : W1.heap.size = w.heap.size + 2 := by rw [hW1]; simp
  refine ⟨w.heap.size + 1, [{ target := .collected w.heap.size, args := #[] }], W1, { target := .fn (.func gf) lb, args := #[.func (.yield (w.heap.size + 1)) #[] #[]] }, W1, gf,
    #[.func (.yield (w.heap.size + 1)) #[] #[]] ++ lb, W1, by rw [hW1]; exact run_enterLoop_outer _ _ _ _ _, ?_, ?_, ?_, fun _ => h1, ?_⟩
  · simp only [resolve, hg]
    simp [go_sem]
  · intro f' hf'
    simp [Target.leads] at hf'
    subst hf'
    exact hFg
  · simp [invoke, go_sem, eg]
  rw [← hD]
  refine (hs (D + 1) (fun pre W => I pre W ∧ W.heap[D + 1]? = some (rc .ready none) ∧ W.heap[D]? = some (.deferred (some [])))
    (fun pre W => ∃ c, Ix c pre W ∧ W.heap[D + 1]? = some (rc .done (some c)) ∧ W.heap[D]? = some (.deferred (some []))) W1 b1
    (fun s A B h hb => ⟨hI s A B h.1 hb, stays_at A B h.2.1 hb, stays_at A B h.2.2 hb⟩)
    (fun s A B h hb => by obtain ⟨c, x, y, z⟩ := h; exact ⟨c, hX c s A B x hb, stays_at A B y hb, stays_at A B z hb⟩)
    (fun s A B h ho => ⟨hIT s A B h.1 (ho.mono fun i _ e => by rw [← hsW1]; exact e), (ho.block (D + 1) (Array.getElem?_eq_some_iff.1 h.2.1).1 (fun e => by have e : W1.heap.size ≤ D + 1 := e; omega)).trans h.2.1, (ho.block D (Array.getElem?_eq_some_iff.1 h.2.2).1 (fun e => by have e : W1.heap.size ≤ D := e; omega)).trans h.2.2⟩)
    ?_ ⟨hI _ _ _ h0 b1, q1, q2⟩).mono ?_
  · rintro pre x A ⟨i1, r1, d1⟩ ho
    have hlt : D + 1 < A.heap.size := (Array.getElem?_eq_some_iff.1 r1).1
    have y := run_yield (P := P) (args := encs x) (by rw [r1, hrc]) (hps x)
    have szA : w.heap.size ≤ A.heap.size := by omega
    refine ⟨fn, _, assign, body, y, roundIn_of_wpIn hfn (hassign _ x A _ szA fun a' A' hax hbl => ?_)⟩
    have k0 : keep x A A' := hkB _ _ _ hbl
    replace i1 := hI _ _ _ i1 hbl
    replace r1 := stays_at _ _ r1 hbl
    replace d1 := stays_at _ _ d1 hbl
    replace ho := hOB _ _ _ _ ho hbl
    have hlt : D + 1 < A'.heap.size := (Array.getElem?_eq_some_iff.1 r1).1
    refine ⟨_, run_beginRound (by rw [r1, hrc]) rfl, ?_⟩
    obtain ⟨A2, hA2⟩ : ∃ A2, A2 = A'.putObj (D + 1) (rc .busy none) := ⟨_, rfl⟩
    have e2 : A'.putObj (D + 1) (.loop { state := .busy, pending := none, fn, tmps := a.tmps, params := ps, assign, body, defers := w.heap.size }) = A2 := by rw [hA2, hrc]
    have r2 : A2.heap[D + 1]? = some (rc .busy none) := by rw [hA2]; exact World.putObj_heap_same hlt
    have d2 : A2.heap[D]? = some (.deferred (some [])) := by rw [hA2]; exact (World.putObj_heap_other (by omega)).trans d1
    have x2 : Ax x a' A2 := by rw [hA2]; exact hAx _ _ _ _ _ _ hax (by omega) r1 (hne _ _)
    have k2 : keep x A' A2 := by rw [hA2]; exact hkb _ _ _ _ _ (by omega) r1 (hne _ _)
    have i2 : I pre A2 := by rw [hA2]; exact hI' _ _ _ _ _ i1 (by omega) r1 (hne _ _)
    have o2 : ok pre x A2 := by rw [hA2]; exact hO _ _ _ _ _ _ ho (by omega) r1 (hne _ _)
    have s2 : w.heap.size ≤ A2.heap.size := by have := (Array.getElem?_eq_some_iff.1 r2).1; omega
    have fin : ∀ (jump : Option Code) (B : World), KeepsOthers A2 B → ∃ C, C = B.putObj (D + 1) (rc (if jump.isNone then .ready else .done) jump) ∧
        (Instr.endRound (D + 1) jump).run P B = .ok (.bool jump.isNone) C ∧ B.heap[D + 1]? = some (rc .busy none) ∧ C.heap[D + 1]? = some (rc (if jump.isNone then .ready else .done) jump) ∧ C.heap[D]? = some (.deferred (some [])) := by
      intro jump B hk
      have r3 := hk.same _ _ r2 (hne _ _)
      have d3 := hk.same _ _ d2 rfl
      refine ⟨_, rfl, ?_, r3, World.putObj_heap_same (Array.getElem?_eq_some_iff.1 r3).1, (World.putObj_heap_other (by omega)).trans d3⟩
      have := run_endRound (P := P) jump (by rw [r3, hrc])
      rw [this, hrc]
    have leave : ∀ (c : Code) (B : World), KeepsOthers A2 B → Ix c (pre ++ [x]) B → ∃ v C, (Instr.endRound (D + 1) (some c)).run P B = .ok v C ∧
        ((Ending.returned v = .returned (.bool true) ∧ (I (pre ++ [x]) C ∧ C.heap[D + 1]? = some (rc .ready none) ∧ C.heap[D]? = some (.deferred (some []))) ∧ keep x A C) ∨
         (Ending.returned v = .returned (.bool false) ∧ ∃ c, Ix c (pre ++ [x]) C ∧ C.heap[D + 1]? = some (rc .done (some c)) ∧ C.heap[D]? = some (.deferred (some [])))) := by
      intro c B hk hx
      obtain ⟨C, hC, hr, r3, r4, d4⟩ := fin (some c) B hk
      exact ⟨_, _, hr, .inr ⟨rfl, c, by rw [hC]; exact hX' _ _ _ _ _ _ hx (by omega) r3 (hne _ _), r4, d4⟩⟩
    show body.wpIn (F.inRound (D + 1)) (n - 1 - 1) P _ _ _
    refine wpIn_mono (Q := ownPostK (keep x) I Ix (pre ++ [x]) A2) (by rw [← e2] at i2 o2 s2 x2 ⊢; exact hbody _ pre x _ _ s2 x2 i2 o2) ?_
    rintro e a3 B hp
    cases e with
    | normal =>
      obtain ⟨hk, kp, i3⟩ := hp
      obtain ⟨C, hC, hr, r3, r4, d4⟩ := fin none B hk
      exact ⟨_, _, hr, .inl ⟨rfl, ⟨by rw [hC]; exact hI' _ _ _ _ _ i3 (by omega) r3 (hne _ _), r4, d4⟩, hkt k0 (hkt (hkt k2 kp) (by rw [hC]; exact hkb _ _ _ _ _ (by omega) r3 (hne _ _)))⟩⟩
    | ret => exact leave .ret B hp.1 hp.2
    | exit id => exact leave (.exit id) B hp.1 hp.2
    | goto t => exact leave (.goto t) B hp.1 hp.2
    | panic ch => exact hp.elim
    | outgrown => exact hp.elim
  · rintro e B ⟨⟨v, rfl⟩, (⟨xs, hA, i1, r1, d1⟩ | ⟨pre, hp, c, i1, r1, d1⟩)⟩
    · refine ⟨none, _, run_endLoop (by rw [r1, hrc]) (by simp), ?_⟩
      rw [hD] at r1 d1 ⊢
      exact hdone _ xs _ (Nat.le_refl _) hA (hI' _ _ _ _ _ i1 (by omega) r1 (hne _ _)) ((World.putObj_heap_other (by omega)).trans d1)
    · refine ⟨some c, _, run_endLoop (by rw [r1, hrc]) (by simp), ?_⟩
      rw [hD] at r1 d1 ⊢
      exact hstop _ c pre _ (Nat.le_refl _) hp (hX' _ _ _ _ _ _ i1 (by omega) r1 (hne _ _)) ((World.putObj_heap_other (by omega)).trans d1)
end Go.Proofs.YtnpeankmmojebaaGreatDoor
