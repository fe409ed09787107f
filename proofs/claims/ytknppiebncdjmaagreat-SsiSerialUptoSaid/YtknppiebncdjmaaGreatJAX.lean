import Derived.Test.YtknppiebncdjmaaGreatJAC
import Derived.Test.YtknppiebncdjmaaGreatJAA
import Derived.Lib.Bytealg
import Derived.Shelf.SlSortCmp.InsertionK
import Derived.Test.YtknppiebncdjmaaGreatJAE
import Derived.Test.YtknppiebncdjmaaGreatProg
import Derived.Shelf.SlGeneric
import Derived.Shelf.SlSortCmp.WholeK
import Derived.Shelf.SlSortCmp.NoneTotal
import Derived.Ground.SlsfProg
import Derived.Test.YtknppiebncdjmaaGreatJAH
import Derived.Test.YtknppiebncdjmaaGreatJAS
/- Layer 9: strings.Compare, cmp.Compare, cmp.Or. -/
namespace Go.Proofs.YtknppiebncdjmaaGreat
set_option maxRecDepth 100000
set_option maxRecDepth 100000
open Go.RowKit

theorem cb_lt8 : ∀ x y : List UInt8, decide (Lib.compareBytes x y < 0) = Op.bytesLess x y
  | [], [] => rfl
  | [], _ :: _ => rfl
  | _ :: _, [] => rfl
  | a :: x, b :: y => by
    have ih := cb_lt8 x y
    unfold Lib.compareBytes Op.bytesLess
    by_cases h1 : a < b
    · simp [h1]
    · by_cases h2 : b < a
      · have h3 : ¬ a = b := fun e => by subst e; exact h1 h2
        simp [h1, h2, h3]
      · have h3 : a = b := UInt8.le_antisymm (UInt8.not_lt.1 h2) (UInt8.not_lt.1 h1)
        subst h3
        simp only [h1, if_false, ih]
        simp
theorem cb_zero8 : ∀ x y : List UInt8, Lib.compareBytes x y = 0 ↔ x = y
  | [], [] => by simp [Lib.compareBytes]
  | [], _ :: _ => by simp [Lib.compareBytes]
  | _ :: _, [] => by simp [Lib.compareBytes]
  | a :: x, b :: y => by
    have ih := cb_zero8 x y
    unfold Lib.compareBytes
    by_cases h1 : a < b
    · have h3 : ¬ a = b := fun e => by subst e; exact UInt8.lt_irrefl _ h1
      simp [h1, h3]
    · by_cases h2 : b < a
      · have h3 : ¬ a = b := fun e => by subst e; exact UInt8.lt_irrefl _ h2
        simp [h1, h2, h3]
      · have h3 : a = b := UInt8.le_antisymm (UInt8.not_lt.1 h2) (UInt8.not_lt.1 h1)
        subst h3
        simp only [h1, if_false, ih]
        simp
def cmpS (a b : ByteArray) : Int := Lib.compareBytes a.data.toList b.data.toList
theorem cmpS_lt (a b : ByteArray) : decide (cmpS a b < 0) = klB a b := by
  unfold klB
  rw [ByteArray.toList_eq, ByteArray.toList_eq]
  exact cb_lt8 _ _
theorem cmpS_zero (a b : ByteArray) : cmpS a b = 0 ↔ a = b := by
  unfold cmpS
  rw [cb_zero8]
  cases a; cases b
  simp
/-- The world has grown and drawn, no more. -/
def Gs (w w' : World) : Prop := ∃ q os, w' = Sort.grow (w.drewN q) os
theorem Gs.refl (w : World) : Gs w w := ⟨0, #[], by simp [Sort.grow_empty]; rfl⟩
theorem Gs.alloc {w w' : World} (h : Gs w w') (o : Obj) : Gs w (w'.alloc o) := by
  obtain ⟨q, os, rfl⟩ := h
  exact ⟨q, os ++ #[o], by rw [Sort.alloc_eq_grow, Sort.grow_grow]⟩
theorem Gs.drewN {w w' : World} (h : Gs w w') (n : Nat) : Gs w (w'.drewN n) := by
  obtain ⟨q, os, rfl⟩ := h
  exact ⟨q + n, os, by unfold Sort.grow World.drewN; simp [Nat.add_assoc]⟩
theorem Gs.drew {w w' : World} (h : Gs w w') : Gs w w'.drew := h.drewN 1

set_option maxHeartbeats 1000000 in
theorem wcmpStr (a b : ByteArray) (w : World) : Calls Tryz.prog 139 #[.string a, .string b] w fun e w' => e = .returned (.int .i64 (cmpS a b)) ∧ w' = w := by
  go_enter Tryz.func139, Tryz.ntmps139
  go_wp2
  rw [run_callFunc_extern Tryz.func178 (by kernel_rfl) (by kernel_rfl) (by kernel_rfl) (e := Extern.BytealgCompare.compare) (by kernel_rfl), Lib.run_compareString]
  simp only [Result.andThen]
  rw [Oper.upon_value]
  go_wp2
  go_ret
  exact ⟨rfl, rfl⟩
set_option maxHeartbeats 1000000 in
theorem wstrCmp (a b : ByteArray) (w : World) : Calls Tryz.prog 93 #[.string a, .string b] w fun e w' => e = .returned (.int .i64 (cmpS a b)) ∧ w' = w := by
  have CC := Lib.hid (wcmpStr a b w)
  go_enter Tryz.func93, Tryz.ntmps93
  go_wp2_with (go_at_call 139; go_loud (refine CC.out.mono ?_; rintro e w1 ⟨rfl, hw⟩; replace hw := hw.symm; subst hw))
  go_ret
  exact ⟨rfl, rfl⟩
theorem Gs.below {w w' : World} (h : Gs w w') : Below w.heap.size w w' := by
  obtain ⟨q, os, rfl⟩ := h
  refine ⟨rfl, rfl, rfl, by simp [Sort.grow, World.drewN], fun k hk => ?_⟩
  unfold Sort.grow World.drewN
  exact Array.getElem?_append_left hk
def cmpI (a b : Int) : Int := if a < b then -1 else if b < a then 1 else 0
theorem cmpI_lt (a b : Int) : decide (cmpI a b < 0) = decide (a < b) := by
  unfold cmpI
  split
  · simp [*]
  · split <;> simp [*]
theorem cmpI_zero (a b : Int) : cmpI a b = 0 ↔ a = b := by
  unfold cmpI
  split
  · simp; omega
  · split
    · simp; omega
    · simp; omega
set_option maxHeartbeats 2000000 in
theorem wcmp_int (a b : Int) (w : World) : Calls Tryz.prog 94 #[.int .i64 a, .int .i64 b] w fun e w' => e = .returned (.int .i64 (cmpI a b)) ∧ w' = w := by
  by_cases h1 : a < b
  · have HM := Lib.hid (show cmpI a b = -1 by unfold cmpI; rw [if_pos h1])
    go_enter Tryz.func94, Tryz.ntmps94
    go_wp2
    go_ret
    exact ⟨by rw [HM.out] <;> rfl, rfl⟩
  · by_cases h2 : b < a
    · have HM := Lib.hid (show cmpI a b = 1 by unfold cmpI; rw [if_neg h1, if_pos h2])
      go_enter Tryz.func94, Tryz.ntmps94
      go_wp2
      go_ret
      exact ⟨by rw [HM.out] <;> rfl, rfl⟩
    · have HM := Lib.hid (show cmpI a b = 0 by unfold cmpI; rw [if_neg h1, if_neg h2])
      go_enter Tryz.func94, Tryz.ntmps94
      go_wp2
      go_ret
      exact ⟨by rw [HM.out] <;> rfl, rfl⟩
set_option maxHeartbeats 2000000 in
theorem wcmp_int64 (a b : Int) (w : World) : Calls Tryz.prog 185 #[.int .i64 a, .int .i64 b] w fun e w' => e = .returned (.int .i64 (cmpI a b)) ∧ w' = w := by
  by_cases h1 : a < b
  · have HM := Lib.hid (show cmpI a b = -1 by unfold cmpI; rw [if_pos h1])
    go_enter Tryz.func185, Tryz.ntmps185
    go_wp2
    go_ret
    exact ⟨by rw [HM.out] <;> rfl, rfl⟩
  · by_cases h2 : b < a
    · have HM := Lib.hid (show cmpI a b = 1 by unfold cmpI; rw [if_neg h1, if_pos h2])
      go_enter Tryz.func185, Tryz.ntmps185
      go_wp2
      go_ret
      exact ⟨by rw [HM.out] <;> rfl, rfl⟩
    · have HM := Lib.hid (show cmpI a b = 0 by unfold cmpI; rw [if_neg h1, if_neg h2])
      go_enter Tryz.func185, Tryz.ntmps185
      go_wp2
      go_ret
      exact ⟨by rw [HM.out] <;> rfl, rfl⟩

def numV (l : List Int) : List Value := l.map (.int .i64)
def orP (xs : List Int) : Int := (xs.find? (fun x => decide (x ≠ 0))).getD 0
theorem orP_drop (xs : List Int) (k : Nat) (h : ∀ j x, j < k → xs[j]? = some x → x = 0) : orP xs = orP (xs.drop k) := by
  induction k generalizing xs with
  | zero => rfl
  | succ k ih =>
    cases xs with
    | nil => rfl
    | cons a xs =>
      have h0 := h 0 a (by omega) rfl
      subst h0
      have := ih xs fun j x hj hx => h (j + 1) x (by omega) (by simpa using hx)
      rw [List.drop_succ_cons, ← this]
      rfl
set_option maxHeartbeats 2000000 in
theorem wcmpOrL {w : World} {g n : Nat} {xs : List Int} (hl : xs.length = n) (hn : n ≤ 100) (hc : ∀ j x, xs[j]? = some x → w.cell? ⟨g, j, none⟩ = some (.int .i64 x)) : Calls Tryz.prog 92 #[.slice (some ⟨g, 0, none⟩) n n] w fun e w' => e = .returned (.int .i64 (orP xs)) ∧ w' = w := by
  have HC := Lib.hid hc
  have HL := Lib.hid hl
  have HN := Lib.hid hn
  clear hc hl hn
  go_enter Tryz.func92, Tryz.ntmps92
  go_upto_region 3 with fail
  go_loopw [8] (fun a' wz => ∃ k : Nat, a' = .int .i64 (k : Nat) ∧ k ≤ n ∧ wz = w ∧ ∀ j x, j < k → xs[j]? = some x → x = 0) (fun a' _ => n - (intOf a').toNat)
  case atStart => exact ⟨0, rfl, Nat.zero_le _, rfl, fun j x hj => absurd hj (by omega)⟩
  case round =>
    rename World => wz
    obtain ⟨k, rfl, hk, rfl, hz⟩ := hrel
    have HZ := Lib.hid hz
    have HD := Lib.hid (orP_drop xs k hz)
    clear hz
    by_cases hkn : k < n
    · obtain ⟨x, hx⟩ : ∃ x, xs[k]? = some x := ⟨_, List.getElem?_eq_getElem (by rw [HL.out]; exact hkn)⟩
      have c0 := HC.out k x hx
      have i1 : (k : Int) < (n : Int) := by omega
      have hk2 : k ≤ 100 := by have := HN.out; omega
      have HX := Lib.hid hx
      have HD2 := Lib.hid (show orP xs = if x ≠ 0 then x else orP (xs.drop (k + 1)) by
        rw [HD.out, List.drop_eq_getElem_cons (by rw [HL.out]; exact hkn)]
        rw [List.getElem?_eq_getElem (by rw [HL.out]; exact hkn)] at hx
        cases hx
        unfold orP
        have hkx : k < xs.length := by rw [HL.out]; exact hkn
        by_cases h0 : xs[k] = 0
        · rw [List.find?_cons_of_neg (by simpa using h0), if_neg (by simpa using h0)]
        · rw [List.find?_cons_of_pos (by simpa using h0), if_pos h0]; rfl)
      have HK := Lib.hid hkn
      clear hx hk hkn
      by_cases h0 : x = 0
      · subst h0
        go_wp2
        go_roundw
        case rel => exact ⟨k + 1, by go_num, HK.out, by first | rfl | trivial, fun j x hj hx => by
          rcases Nat.lt_or_ge j k with h1 | h1
          · exact HZ.out j x h1 hx
          · have : j = k := by omega
            subst this
            rw [HX.out] at hx
            cases hx; rfl⟩
        case measure => have := HK.out; simp [intOf]; omega
      · have HR := Lib.hid (show orP xs = x by rw [HD2.out, if_pos h0])
        go_wp2
        go_ret
        exact ⟨by rw [HR.out] <;> rfl, rfl⟩
    · have hkn2 : k = n := by omega
      have HR := Lib.hid (show orP xs = 0 by rw [HD.out, List.drop_eq_nil_of_le (by rw [HL.out, hkn2]; exact Nat.le_refl _)]; rfl)
      have i1 : ¬ (k : Int) < (n : Int) := by omega
      clear hkn hk hkn2
      go_wp2
      go_ret
      exact ⟨by rw [HR.out] <;> rfl, rfl⟩
end Go.Proofs.YtknppiebncdjmaaGreat

/- Layer 8: two locks compared: strings.Compare, cmp.Or, the manager's compare; it is the order of locks. -/
namespace Go.Proofs.YtknppiebncdjmaaGreat
set_option maxRecDepth 100000
set_option maxRecDepth 100000
open Go.RowKit

/-- What the manager's compare says of two locks. -/
def cmpB (a b : Lk) : Int := if cmpS a.1 b.1 ≠ 0 then cmpS a.1 b.1 else cmpS a.2 b.2
theorem ltOf_cmpB (a b : Lk) : ltOf cmpB a b = lessB a b := by
  unfold ltOf cmpB lessB
  rw [toList_beq8]
  by_cases h : a.1 = b.1
  · rw [if_neg (by simpa using (cmpS_zero _ _).2 h), cmpS_lt]
    rw [h, klB_irrefl]
    simp
  · rw [if_pos (by intro e; exact h ((cmpS_zero _ _).1 e)), cmpS_lt]
    simp [h]
theorem swo_cmpB : Sort.SWO (ltOf cmpB) where
  irrefl x := by rw [ltOf_cmpB]; exact lessB_irr x
  trans x y z h1 h2 := by rw [ltOf_cmpB] at *; exact lessB_tr _ _ _ h1 h2
  ntrans x y z h1 h2 := by
    rw [ltOf_cmpB] at *
    cases h3 : lessB x z with
    | false => rfl
    | true =>
      cases h4 : lessB y x with
      | true => rw [lessB_tr _ _ _ h4 h3] at h2; cases h2
      | false => rw [lessB_tri _ _ h1 h4] at h3; rw [h2] at h3; cases h3

set_option maxHeartbeats 2000000 in
theorem wcmpOr {w : World} {g : Nat} {x y : Int} (c0 : w.cell? ⟨g, 0, none⟩ = some (.int .i64 x)) (c1 : w.cell? ⟨g, 1, none⟩ = some (.int .i64 y)) : Calls Tryz.prog 92 #[.slice (some ⟨g, 0, none⟩) 2 2] w fun e w' => e = .returned (.int .i64 (if x ≠ 0 then x else y)) ∧ w' = w := by
  by_cases h1 : x = 0
  · by_cases h2 : y = 0
    · subst h1; subst h2
      go_enter Tryz.func92, Tryz.ntmps92
      go_upto_region 3 with fail
      refine wp_loop_rounds 3 ?_
      rw [rounds_succ]
      go_wp2
      rw [rounds_succ]
      go_wp2
      rw [rounds_succ]
      go_wp2
      go_ret
      exact ⟨by simp, rfl⟩
    · subst h1
      go_enter Tryz.func92, Tryz.ntmps92
      go_upto_region 3 with fail
      refine wp_loop_rounds 2 ?_
      rw [rounds_succ]
      go_wp2
      rw [rounds_succ]
      go_wp2
      go_ret
      exact ⟨by simp, rfl⟩
  · go_enter Tryz.func92, Tryz.ntmps92
    go_upto_region 3 with fail
    refine wp_loop_rounds 1 ?_
    rw [rounds_succ]
    go_wp2
    go_ret
    exact ⟨by simp [h1], rfl⟩
end Go.Proofs.YtknppiebncdjmaaGreat

/- Layer 8: the manager's compare, as slices.SortFunc asks it. -/
namespace Go.Proofs.YtknppiebncdjmaaGreat
set_option maxRecDepth 100000
set_option maxRecDepth 100000
open Go.RowKit

set_option maxHeartbeats 8000000 in
theorem wkCompare (a b : Lk) (w : World) : Calls Tryz.prog 125 #[lkV a, lkV b] w fun e w' => e = .returned (.int .i64 (cmpB a b)) ∧ Gs w w' := by
  obtain ⟨W1, hW1⟩ : ∃ W, w.alloc (.cells #[.string a.1, .string a.2] 42) = W := ⟨_, rfl⟩
  obtain ⟨W2, hW2⟩ : ∃ W, W1.alloc (.cells #[.string b.1, .string b.2] 42) = W := ⟨_, rfl⟩
  have g1 : Gs w W1 := by rw [← hW1]; exact (Gs.refl w).alloc _
  have GG := Lib.hid (show Gs w W2 by rw [← hW2]; exact g1.alloc _)
  have q0 : W2.heap[w.heap.size]? = some (.cells #[.string a.1, .string a.2] 42 (0, 0)) := by
    rw [← hW2, Below.heap_alloc _ _ _ (by rw [← hW1]; simp), ← hW1]; exact heap_alloc_new _ _
  have q1 : W2.heap[w.heap.size + 1]? = some (.cells #[.string b.1, .string b.2] 42 (0, 0)) := by
    rw [show w.heap.size + 1 = W1.heap.size by rw [← hW1]; simp, ← hW2]; exact heap_alloc_new _ _
  have S0 : W2.cell? ⟨w.heap.size, 0, none⟩ = some (.string a.1) ∧ W2.cell? ⟨w.heap.size, 1, none⟩ = some (.string a.2) ∧ W2.cell? ⟨w.heap.size + 1, 0, none⟩ = some (.string b.1) ∧ W2.cell? ⟨w.heap.size + 1, 1, none⟩ = some (.string b.2) :=
    ⟨cell_of_row _ _ 0 _ _ _ q0, cell_of_row _ _ 1 _ _ _ q0, cell_of_row _ _ 0 _ _ _ q1, cell_of_row _ _ 1 _ _ _ q1⟩
  have S1 : ∀ o, (W2.alloc o).cell? ⟨w.heap.size, 0, none⟩ = some (.string a.1) ∧ (W2.alloc o).cell? ⟨w.heap.size, 1, none⟩ = some (.string a.2) ∧ (W2.alloc o).cell? ⟨w.heap.size + 1, 0, none⟩ = some (.string b.1) ∧ (W2.alloc o).cell? ⟨w.heap.size + 1, 1, none⟩ = some (.string b.2) := fun o => by
    have hb : Below W2.heap.size W2 (W2.alloc o) := (Below.refl _ _).alloc (Nat.le_refl _) o
    exact ⟨keep_below S0.1 hb, keep_below S0.2.1 hb, keep_below S0.2.2.1 hb, keep_below S0.2.2.2 hb⟩
  obtain ⟨x, hx⟩ : ∃ x, cmpS a.1 b.1 = x := ⟨_, rfl⟩
  obtain ⟨y, hy⟩ : ∃ y, cmpS a.2 b.2 = y := ⟨_, rfl⟩
  have C1 := Lib.hid (fun W => wstrCmp a.1 b.1 W)
  have C2 := Lib.hid (fun W => wstrCmp a.2 b.2 W)
  rw [hx] at C1
  rw [hy] at C2
  have HW1 := Lib.hid hW1
  have HW2 := Lib.hid hW2
  have HE := Lib.hid (show cmpB a b = if x ≠ 0 then x else y by unfold cmpB; rw [hx, hy])
  rw [HE.out]
  obtain ⟨z, hz⟩ : ∃ z, (if x ≠ 0 then x else y) = z := ⟨_, rfl⟩
  rw [hz]
  have C3 := Lib.hid (fun (W : World) (o : Nat) (h : W.heap[o]? = some (.cells #[.int .i64 x, .int .i64 y] 3 (0, 0))) => (wcmpOr (cell_of_row _ _ 0 _ _ _ h) (cell_of_row _ _ 1 _ _ _ h)))
  rw [hz] at C3
  clear hW1 hW2 g1 q0 q1 hx hy HE hz
  unfold lkV
  go_enter Tryz.func125, Tryz.ntmps125
  go_upto_region 1 with fail
  rw [HW1.out, HW2.out]
  go_region_held3 (fun w' => w'.cell? ⟨w.heap.size, 0, none⟩ = some (.string a.1) ∧ w'.cell? ⟨w.heap.size, 1, none⟩ = some (.string a.2) ∧ w'.cell? ⟨w.heap.size + 1, 0, none⟩ = some (.string b.1) ∧ w'.cell? ⟨w.heap.size + 1, 1, none⟩ = some (.string b.2))
    (first | exact S0 | exact S1 _)
    (first
      | (go_at_call_of 93 (Value.string a.1); go_loud (refine (C1.out _).mono ?_; rintro e w1 ⟨rfl, hw⟩; replace hw := hw.symm; subst hw))
      | (go_at_call_of 93 (Value.string a.2); go_loud (refine (C2.out _).mono ?_; rintro e w1 ⟨rfl, hw⟩; replace hw := hw.symm; subst hw))
      | (go_at_call 92; go_loud (refine (C3.out _ _ (by exact heap_alloc_new W2 _)).mono ?_; rintro e w3 ⟨rfl, hw⟩; replace hw := hw.symm; subst hw)))
  all_goals
    go_wp2
    go_ret
    exact ⟨rfl, by first | exact GG.out.alloc _ | exact GG.out.drew.alloc _⟩
end Go.Proofs.YtknppiebncdjmaaGreat

/- The library's contracts at this seat, in plain words (made by program: wip/law). -/
namespace Go.Proofs
set_option maxRecDepth 100000
open Go.Shelf
def Tryz.sortR_ren : Go.Shelf.Ren := ⟨fun | 6 => 90 | 15 => 137 | 14 => 138 | 28 => 168 | 29 => 169 | 20 => 170 | 21 => 171 | 22 => 172 | 23 => 173 | 24 => 174 | 25 => 175 | 26 => 176 | 27 => 177 | 46 => 206 | 47 => 201 | 48 => 202 | 49 => 207 | 50 => 208 | 57 => 217 | n => n, fun | 22 => 111 | 24 => 114 | 25 => 168 | 3 => 3 | 39 => 206 | 0 => 0 | 53 => 237 | 55 => 239 | 4 => 4 | 46 => 230 | 45 => 229 | 50 => 234 | 5 => 5 | 9 => 9 | 66 => 259 | 70 => 263 | 76 => 273 | 77 => 180 | n => n, fun | n => n⟩
theorem Tryz.sortR : Go.Proofs.SlLaysF0.n6 Tryz.prog Tryz.sortR_ren := {
  mixed := by kernel_rfl
  f6 := ⟨Tryz.f90.name, by decide, Tryz.func90.trans (congrArg some (by kernel_rfl))⟩
  f14 := ⟨Tryz.f138.name, by decide, Tryz.func138.trans (congrArg some (by kernel_rfl))⟩
  f15 := Tryz.func137.trans (congrArg some (by kernel_rfl))
  f20 := ⟨Tryz.f170.name, by decide, Tryz.func170.trans (congrArg some (by kernel_rfl))⟩
  f21 := ⟨Tryz.f171.name, by decide, Tryz.func171.trans (congrArg some (by kernel_rfl))⟩
  f22 := ⟨Tryz.f172.name, by decide, Tryz.func172.trans (congrArg some (by kernel_rfl))⟩
  f23 := ⟨Tryz.f173.name, by decide, Tryz.func173.trans (congrArg some (by kernel_rfl))⟩
  f24 := ⟨Tryz.f174.name, by decide, Tryz.func174.trans (congrArg some (by kernel_rfl))⟩
  f25 := ⟨Tryz.f175.name, by decide, Tryz.func175.trans (congrArg some (by kernel_rfl))⟩
  f26 := ⟨Tryz.f176.name, by decide, Tryz.func176.trans (congrArg some (by kernel_rfl))⟩
  f27 := ⟨Tryz.f177.name, by decide, Tryz.func177.trans (congrArg some (by kernel_rfl))⟩
  f28 := Tryz.func168.trans (congrArg some (by kernel_rfl))
  f29 := Tryz.func169.trans (congrArg some (by kernel_rfl))
  f46 := ⟨Tryz.f206.name, by decide, Tryz.func206.trans (congrArg some (by kernel_rfl))⟩
  f47 := Tryz.func201.trans (congrArg some (by kernel_rfl))
  f48 := Tryz.func202.trans (congrArg some (by kernel_rfl))
  f49 := ⟨Tryz.f207.name, by decide, Tryz.func207.trans (congrArg some (by kernel_rfl))⟩
  f50 := ⟨Tryz.f208.name, by decide, Tryz.func208.trans (congrArg some (by kernel_rfl))⟩
  f57 := ⟨Tryz.f217.name, by decide, Tryz.func217.trans (congrArg some (by kernel_rfl))⟩
  t0 := Tryz.underlying0
  a0 := Tryz.isAgg0
  z0 := Tryz.sizeOf0
  v0 := Tryz.zeroValue0
  t3 := Tryz.underlying3
  a3 := Tryz.isAgg3
  z3 := Tryz.sizeOf3
  v3 := Tryz.zeroValue3
  t4 := Tryz.underlying4
  a4 := Tryz.isAgg4
  z4 := Tryz.sizeOf4
  v4 := Tryz.zeroValue4
  t5 := Tryz.underlying5
  a5 := Tryz.isAgg5
  z5 := Tryz.sizeOf5
  v5 := Tryz.zeroValue5
  t9 := Tryz.underlying9
  a9 := Tryz.isAgg9
  z9 := Tryz.sizeOf9
  v9 := Tryz.zeroValue9
  t22 := Tryz.underlying111
  a22 := Tryz.isAgg111
  z22 := Tryz.sizeOf111
  v22 := Tryz.zeroValue111
  t25 := Tryz.underlying168
  a25 := Tryz.isAgg168
  z25 := Tryz.sizeOf168
  v25 := Tryz.zeroValue168
  t39 := Tryz.underlying206
  a39 := Tryz.isAgg206
  z39 := Tryz.sizeOf206
  v39 := Tryz.zeroValue206
  t45 := Tryz.underlying229
  a45 := Tryz.isAgg229
  z45 := Tryz.sizeOf229
  v45 := Tryz.zeroValue229
  t46 := Tryz.underlying230
  a46 := Tryz.isAgg230
  z46 := Tryz.sizeOf230
  v46 := Tryz.zeroValue230
  t50 := Tryz.underlying234
  a50 := Tryz.isAgg234
  z50 := Tryz.sizeOf234
  v50 := Tryz.zeroValue234
  t53 := Tryz.underlying237
  a53 := Tryz.isAgg237
  z53 := Tryz.sizeOf237
  v53 := Tryz.zeroValue237
  t55 := Tryz.underlying239
  a55 := Tryz.isAgg239
  z55 := Tryz.sizeOf239
  v55 := Tryz.zeroValue239
  t66 := Tryz.underlying259
  a66 := Tryz.isAgg259
  z66 := Tryz.sizeOf259
  v66 := Tryz.zeroValue259
  t70 := Tryz.underlying263
  a70 := Tryz.isAgg263
  z70 := Tryz.sizeOf263
  v70 := Tryz.zeroValue263
  t76 := Tryz.underlying273
  a76 := Tryz.isAgg273
  z76 := Tryz.sizeOf273
  v76 := Tryz.zeroValue273
  t77 := Tryz.underlying180
  a77 := Tryz.isAgg180
  z77 := Tryz.sizeOf180
  v77 := Tryz.zeroValue180 }
end Go.Proofs

/- Layer 9: two pairs compared. -/
namespace Go.Proofs.YtknppiebncdjmaaGreat
set_option maxRecDepth 100000
set_option maxRecDepth 100000
open Go.RowKit

def cmpPr (a b : Int × ByteArray) : Int := orP [cmpI a.1 b.1, cmpS a.2 b.2]
theorem cmpPr_lt (a b : Int × ByteArray) : decide (cmpPr a b < 0) = pairLt a b := by
  unfold cmpPr orP pairLt
  by_cases h : a.1 = b.1
  · have h0 := (cmpI_zero a.1 b.1).2 h
    rw [List.find?_cons_of_neg (by simpa using h0)]
    by_cases h2 : a.2 = b.2
    · have h3 := (cmpS_zero a.2 b.2).2 h2
      rw [List.find?_cons_of_neg (by simpa using h3)]
      rw [h2, klB_irrefl]
      simp [h]
    · have h3 : ¬ cmpS a.2 b.2 = 0 := fun e => h2 ((cmpS_zero _ _).1 e)
      rw [List.find?_cons_of_pos (by simpa using h3)]
      simp only [Option.getD_some]
      rw [cmpS_lt]
      simp [h]
  · have h0 : ¬ cmpI a.1 b.1 = 0 := fun e => h ((cmpI_zero _ _).1 e)
    rw [List.find?_cons_of_pos (by simpa using h0)]
    simp only [Option.getD_some]
    rw [cmpI_lt]
    simp [h]
theorem row_at {w : World} {g : Nat} {vs : Array Value} {e : TypeId} {xs : List Int} (h : w.heap[g]? = some (.cells vs e (0, 0))) (hv : vs.toList = numV xs) : ∀ j x, xs[j]? = some x → w.cell? ⟨g, j, none⟩ = some (.int .i64 x) := fun j x hx => by
  have := cell_of_row w g j _ _ _ h
  rw [this]
  have h2 : vs.toList[j]? = some (.int .i64 x) := by rw [hv]; simp [numV, hx]
  rw [Array.getElem?_toList] at h2
  exact h2
set_option maxHeartbeats 8000000 in
theorem wpComparePairs (a b : Int × ByteArray) (w : World) : Calls Tryz.prog 144 #[.agg #[.int .i64 a.1, .string a.2], .agg #[.int .i64 b.1, .string b.2]] w fun e w' => e = .returned (.int .i64 (cmpPr a b)) ∧ Gs w w' := by
  obtain ⟨W1, hW1⟩ : ∃ W, w.alloc (.cells #[.int .i64 a.1, .string a.2] 171) = W := ⟨_, rfl⟩
  obtain ⟨W2, hW2⟩ : ∃ W, W1.alloc (.cells #[.int .i64 b.1, .string b.2] 171) = W := ⟨_, rfl⟩
  have g1 : Gs w W1 := by rw [← hW1]; exact (Gs.refl w).alloc _
  have GG := Lib.hid (show Gs w W2 by rw [← hW2]; exact g1.alloc _)
  have q0 : W2.heap[w.heap.size]? = some (.cells #[.int .i64 a.1, .string a.2] 171 (0, 0)) := by
    rw [← hW2, Below.heap_alloc _ _ _ (by rw [← hW1]; simp), ← hW1]; exact heap_alloc_new _ _
  have q1 : W2.heap[w.heap.size + 1]? = some (.cells #[.int .i64 b.1, .string b.2] 171 (0, 0)) := by
    rw [show w.heap.size + 1 = W1.heap.size by rw [← hW1]; simp, ← hW2]; exact heap_alloc_new _ _
  have S0 : W2.cell? ⟨w.heap.size, 0, none⟩ = some (.int .i64 a.1) ∧ W2.cell? ⟨w.heap.size, 1, none⟩ = some (.string a.2) ∧ W2.cell? ⟨w.heap.size + 1, 0, none⟩ = some (.int .i64 b.1) ∧ W2.cell? ⟨w.heap.size + 1, 1, none⟩ = some (.string b.2) :=
    ⟨cell_of_row _ _ 0 _ _ _ q0, cell_of_row _ _ 1 _ _ _ q0, cell_of_row _ _ 0 _ _ _ q1, cell_of_row _ _ 1 _ _ _ q1⟩
  have S1 : ∀ o, (W2.alloc o).cell? ⟨w.heap.size, 0, none⟩ = some (.int .i64 a.1) ∧ (W2.alloc o).cell? ⟨w.heap.size, 1, none⟩ = some (.string a.2) ∧ (W2.alloc o).cell? ⟨w.heap.size + 1, 0, none⟩ = some (.int .i64 b.1) ∧ (W2.alloc o).cell? ⟨w.heap.size + 1, 1, none⟩ = some (.string b.2) := fun o => by
    have hb : Below W2.heap.size W2 (W2.alloc o) := (Below.refl _ _).alloc (Nat.le_refl _) o
    exact ⟨keep_below S0.1 hb, keep_below S0.2.1 hb, keep_below S0.2.2.1 hb, keep_below S0.2.2.2 hb⟩
  obtain ⟨x, hx⟩ : ∃ x, cmpI a.1 b.1 = x := ⟨_, rfl⟩
  obtain ⟨y, hy⟩ : ∃ y, cmpS a.2 b.2 = y := ⟨_, rfl⟩
  have C1 := Lib.hid (fun W => wcmp_int64 a.1 b.1 W)
  have C2 := Lib.hid (fun W => wstrCmp a.2 b.2 W)
  rw [hx] at C1
  rw [hy] at C2
  have HW1 := Lib.hid hW1
  have HW2 := Lib.hid hW2
  have HE := Lib.hid (show cmpPr a b = orP [x, y] by unfold cmpPr; rw [hx, hy])
  rw [HE.out]
  have C3 := Lib.hid (fun (W : World) (o : Nat) (h : W.heap[o]? = some (.cells #[.int .i64 x, .int .i64 y] 3 (0, 0))) => wcmpOrL (n := 2) (xs := [x, y]) rfl (by omega) (row_at h rfl))
  generalize orP [x, y] = z at C3 ⊢
  clear hW1 hW2 g1 q0 q1 hx hy HE
  go_enter Tryz.func144, Tryz.ntmps144
  go_upto_region 1 with fail
  rw [HW1.out, HW2.out]
  go_region_held3 (fun w' => w'.cell? ⟨w.heap.size, 0, none⟩ = some (.int .i64 a.1) ∧ w'.cell? ⟨w.heap.size, 1, none⟩ = some (.string a.2) ∧ w'.cell? ⟨w.heap.size + 1, 0, none⟩ = some (.int .i64 b.1) ∧ w'.cell? ⟨w.heap.size + 1, 1, none⟩ = some (.string b.2))
    (first | exact S0 | exact S1 _)
    (first
      | (go_at_call 185; go_loud (refine (C1.out _).mono ?_; rintro e w1 ⟨rfl, hw⟩; replace hw := hw.symm; subst hw))
      | (go_at_call 93; go_loud (refine (C2.out _).mono ?_; rintro e w1 ⟨rfl, hw⟩; replace hw := hw.symm; subst hw))
      | (go_at_call 92; go_loud (refine (C3.out _ _ (by exact heap_alloc_new W2 _)).mono ?_; rintro e w3 ⟨rfl, hw⟩; replace hw := hw.symm; subst hw)))
  all_goals
    go_wp2
    go_ret
    exact ⟨rfl, by first | exact GG.out.alloc _ | exact GG.out.drew.alloc _⟩
end Go.Proofs.YtknppiebncdjmaaGreat

/- Layer 9: two notes compared, as slices.SortFunc asks it. -/
namespace Go.Proofs.YtknppiebncdjmaaGreat
set_option maxRecDepth 100000
set_option maxRecDepth 100000
open Go.RowKit

def cmpR (a b : Rd) : Int := orP [cmpS a.tb b.tb, cmpI a.kd b.kd, cmpS a.lo b.lo, cmpS a.hi b.hi]
theorem orP_cons (x : Int) (xs : List Int) : orP (x :: xs) = if x = 0 then orP xs else x := by
  unfold orP
  by_cases h : x = 0
  · rw [List.find?_cons_of_neg (by simpa using h), if_pos h]
  · rw [List.find?_cons_of_pos (by simpa using h), if_neg h]; rfl
theorem ltOf_cmpR (a b : Rd) : ltOf cmpR a b = aheadP a b := by
  unfold ltOf cmpR aheadP
  rw [toList_beq8, toList_beq8]
  by_cases h1 : a.tb = b.tb
  · rw [orP_cons, if_pos ((cmpS_zero _ _).2 h1), if_pos (by simpa using h1)]
    by_cases h2 : a.kd = b.kd
    · rw [orP_cons, if_pos ((cmpI_zero _ _).2 h2), if_pos (by simpa using h2)]
      by_cases h3 : a.lo = b.lo
      · rw [orP_cons, if_pos ((cmpS_zero _ _).2 h3), if_pos (by simpa using h3), orP_cons]
        by_cases h4 : a.hi = b.hi
        · rw [if_pos ((cmpS_zero _ _).2 h4), h4, klB_irrefl]; rfl
        · rw [if_neg (fun e => h4 ((cmpS_zero _ _).1 e)), cmpS_lt]
      · rw [orP_cons, if_neg (fun e => h3 ((cmpS_zero _ _).1 e)), if_neg (by simpa using h3), cmpS_lt]
    · rw [orP_cons, if_neg (fun e => h2 ((cmpI_zero _ _).1 e)), if_neg (by simpa using h2), cmpI_lt]
  · rw [orP_cons, if_neg (fun e => h1 ((cmpS_zero _ _).1 e)), if_neg (by simpa using h1), cmpS_lt]
theorem swo_cmpR : Sort.SWO (ltOf cmpR) where
  irrefl x := by rw [ltOf_cmpR]; exact ahead_irr x
  trans x y z h1 h2 := by rw [ltOf_cmpR] at *; exact ahead_tr _ _ _ h1 h2
  ntrans x y z h1 h2 := by
    rw [ltOf_cmpR] at *
    cases h3 : aheadP x z with
    | false => rfl
    | true =>
      cases h4 : aheadP y x with
      | true => rw [ahead_tr _ _ _ h4 h3] at h2; cases h2
      | false => rw [ahead_tri _ _ h1 h4] at h3; rw [h2] at h3; cases h3
set_option maxHeartbeats 16000000 in
theorem wpCmpR (a b : Rd) (w : World) : Calls Tryz.prog 91 #[rdV a, rdV b] w fun e w' => e = .returned (.int .i64 (cmpR a b)) ∧ Gs w w' := by
  obtain ⟨W1, hW1⟩ : ∃ W, w.alloc (.cells #[.string a.tb, .int .i64 a.kd, .string a.lo, .string a.hi] 114) = W := ⟨_, rfl⟩
  obtain ⟨W2, hW2⟩ : ∃ W, W1.alloc (.cells #[.string b.tb, .int .i64 b.kd, .string b.lo, .string b.hi] 114) = W := ⟨_, rfl⟩
  have g1 : Gs w W1 := by rw [← hW1]; exact (Gs.refl w).alloc _
  have GG := Lib.hid (show Gs w W2 by rw [← hW2]; exact g1.alloc _)
  have q0 : W2.heap[w.heap.size]? = some (.cells #[.string a.tb, .int .i64 a.kd, .string a.lo, .string a.hi] 114 (0, 0)) := by
    rw [← hW2, Below.heap_alloc _ _ _ (by rw [← hW1]; simp), ← hW1]; exact heap_alloc_new _ _
  have q1 : W2.heap[w.heap.size + 1]? = some (.cells #[.string b.tb, .int .i64 b.kd, .string b.lo, .string b.hi] 114 (0, 0)) := by
    rw [show w.heap.size + 1 = W1.heap.size by rw [← hW1]; simp, ← hW2]; exact heap_alloc_new _ _
  have S0 : W2.cell? ⟨w.heap.size, 0, none⟩ = some (.string a.tb) ∧ W2.cell? ⟨w.heap.size, 1, none⟩ = some (.int .i64 a.kd) ∧ W2.cell? ⟨w.heap.size, 2, none⟩ = some (.string a.lo) ∧ W2.cell? ⟨w.heap.size, 3, none⟩ = some (.string a.hi) ∧ W2.cell? ⟨w.heap.size + 1, 0, none⟩ = some (.string b.tb) ∧ W2.cell? ⟨w.heap.size + 1, 1, none⟩ = some (.int .i64 b.kd) ∧ W2.cell? ⟨w.heap.size + 1, 2, none⟩ = some (.string b.lo) ∧ W2.cell? ⟨w.heap.size + 1, 3, none⟩ = some (.string b.hi) :=
    ⟨cell_of_row _ _ 0 _ _ _ q0, cell_of_row _ _ 1 _ _ _ q0, cell_of_row _ _ 2 _ _ _ q0, cell_of_row _ _ 3 _ _ _ q0, cell_of_row _ _ 0 _ _ _ q1, cell_of_row _ _ 1 _ _ _ q1, cell_of_row _ _ 2 _ _ _ q1, cell_of_row _ _ 3 _ _ _ q1⟩
  have S1 : ∀ o, (W2.alloc o).cell? ⟨w.heap.size, 0, none⟩ = some (.string a.tb) ∧ (W2.alloc o).cell? ⟨w.heap.size, 1, none⟩ = some (.int .i64 a.kd) ∧ (W2.alloc o).cell? ⟨w.heap.size, 2, none⟩ = some (.string a.lo) ∧ (W2.alloc o).cell? ⟨w.heap.size, 3, none⟩ = some (.string a.hi) ∧ (W2.alloc o).cell? ⟨w.heap.size + 1, 0, none⟩ = some (.string b.tb) ∧ (W2.alloc o).cell? ⟨w.heap.size + 1, 1, none⟩ = some (.int .i64 b.kd) ∧ (W2.alloc o).cell? ⟨w.heap.size + 1, 2, none⟩ = some (.string b.lo) ∧ (W2.alloc o).cell? ⟨w.heap.size + 1, 3, none⟩ = some (.string b.hi) := fun o => by
    have hb : Below W2.heap.size W2 (W2.alloc o) := (Below.refl _ _).alloc (Nat.le_refl _) o
    exact ⟨keep_below S0.1 hb, keep_below S0.2.1 hb, keep_below S0.2.2.1 hb, keep_below S0.2.2.2.1 hb, keep_below S0.2.2.2.2.1 hb, keep_below S0.2.2.2.2.2.1 hb, keep_below S0.2.2.2.2.2.2.1 hb, keep_below S0.2.2.2.2.2.2.2 hb⟩
  obtain ⟨x, hx⟩ : ∃ x, cmpS a.tb b.tb = x := ⟨_, rfl⟩
  obtain ⟨y, hy⟩ : ∃ y, cmpI a.kd b.kd = y := ⟨_, rfl⟩
  obtain ⟨u, hu⟩ : ∃ u, cmpS a.lo b.lo = u := ⟨_, rfl⟩
  obtain ⟨v, hv⟩ : ∃ v, cmpS a.hi b.hi = v := ⟨_, rfl⟩
  have C1 := Lib.hid (fun W => wstrCmp a.tb b.tb W)
  have C2 := Lib.hid (fun W => wcmp_int a.kd b.kd W)
  have C3 := Lib.hid (fun W => wstrCmp a.lo b.lo W)
  have C4 := Lib.hid (fun W => wstrCmp a.hi b.hi W)
  rw [hx] at C1
  rw [hy] at C2
  rw [hu] at C3
  rw [hv] at C4
  have HW1 := Lib.hid hW1
  have HW2 := Lib.hid hW2
  have HE := Lib.hid (show cmpR a b = orP [x, y, u, v] by unfold cmpR; rw [hx, hy, hu, hv])
  rw [HE.out]
  have C5 := Lib.hid (fun (W : World) (o : Nat) (h : W.heap[o]? = some (.cells #[.int .i64 x, .int .i64 y, .int .i64 u, .int .i64 v] 3 (0, 0))) => wcmpOrL (n := 4) (xs := [x, y, u, v]) rfl (by omega) (row_at h rfl))
  generalize orP [x, y, u, v] = z at C5 ⊢
  clear hW1 hW2 g1 q0 q1 hx hy hu hv HE
  unfold rdV
  go_enter Tryz.func91, Tryz.ntmps91
  go_upto_region 1 with fail
  rw [HW1.out, HW2.out]
  go_region_held3 (fun w' => w'.cell? ⟨w.heap.size, 0, none⟩ = some (.string a.tb) ∧ w'.cell? ⟨w.heap.size, 1, none⟩ = some (.int .i64 a.kd) ∧ w'.cell? ⟨w.heap.size, 2, none⟩ = some (.string a.lo) ∧ w'.cell? ⟨w.heap.size, 3, none⟩ = some (.string a.hi) ∧ w'.cell? ⟨w.heap.size + 1, 0, none⟩ = some (.string b.tb) ∧ w'.cell? ⟨w.heap.size + 1, 1, none⟩ = some (.int .i64 b.kd) ∧ w'.cell? ⟨w.heap.size + 1, 2, none⟩ = some (.string b.lo) ∧ w'.cell? ⟨w.heap.size + 1, 3, none⟩ = some (.string b.hi))
    (first | exact S0 | exact S1 _)
    (first
      | (go_at_call 94; go_loud (refine (C2.out _).mono ?_; rintro e w1 ⟨rfl, hw⟩; replace hw := hw.symm; subst hw))
      | (go_at_call_of 93 (Value.string a.tb); go_loud (refine (C1.out _).mono ?_; rintro e w1 ⟨rfl, hw⟩; replace hw := hw.symm; subst hw))
      | (go_at_call_of 93 (Value.string a.lo); go_loud (refine (C3.out _).mono ?_; rintro e w1 ⟨rfl, hw⟩; replace hw := hw.symm; subst hw))
      | (go_at_call_of 93 (Value.string a.hi); go_loud (refine (C4.out _).mono ?_; rintro e w1 ⟨rfl, hw⟩; replace hw := hw.symm; subst hw))
      | (go_at_call 92; go_loud (refine (C5.out _ _ (by exact heap_alloc_new W2 _)).mono ?_; rintro e w3 ⟨rfl, hw⟩; replace hw := hw.symm; subst hw)))
  all_goals
    go_wp2
    go_ret
    exact ⟨rfl, by first | exact GG.out.alloc _ | exact GG.out.drew.alloc _⟩
end Go.Proofs.YtknppiebncdjmaaGreat

/- Layer 9: slices.SortFunc of notes that the call itself made, by its contract. -/
namespace Go.Proofs.YtknppiebncdjmaaGreat
set_option maxRecDepth 100000
set_option maxRecDepth 100000
open Go.RowKit

theorem flat_cellsR (d : Array Rd) : (Sort.flatK rdC 4 d).toList = cellsR d.toList := by
  apply List.ext_getElem?
  intro t
  have hlen : (cellsR d.toList).length = 4 * d.size := by rw [cellsR_len]; simp
  by_cases ht : t < d.size * 4
  · have hj : t / 4 < d.size := by omega
    have h1 : (Sort.flatK rdC 4 d)[t]! = (rdC d[t / 4]!)[t % 4]! := Sort.get_flatK _ _ _ _ ht
    have h2 : (Sort.flatK rdC 4 d).toList[t]? = some ((rdC d[t / 4]!)[t % 4]!) := by
      rw [← h1, Array.getElem?_toList, Array.getElem?_eq_getElem (by simpa using ht), getElem!_pos]
    have h3 : d.toList[t / 4]? = some d[t / 4]! := by
      rw [Array.getElem?_toList, Array.getElem?_eq_getElem hj, getElem!_pos]
    obtain ⟨a1, a2, a3, a4⟩ := cellsR_at d.toList (t / 4) _ h3
    rw [h2]
    have hm : t % 4 = 0 ∨ t % 4 = 1 ∨ t % 4 = 2 ∨ t % 4 = 3 := by omega
    rcases hm with hm | hm | hm | hm
    · rw [hm, show t = 4 * (t / 4) by omega, a1, show 4 * (t / 4) / 4 = t / 4 by omega]; rfl
    · rw [hm, show t = 4 * (t / 4) + 1 by omega, a2, show (4 * (t / 4) + 1) / 4 = t / 4 by omega]; rfl
    · rw [hm, show t = 4 * (t / 4) + 2 by omega, a3, show (4 * (t / 4) + 2) / 4 = t / 4 by omega]; rfl
    · rw [hm, show t = 4 * (t / 4) + 3 by omega, a4, show (4 * (t / 4) + 3) / 4 = t / 4 by omega]; rfl
  · rw [List.getElem?_eq_none (by simp; omega), List.getElem?_eq_none (by rw [hlen]; omega)]
theorem sortedF_heap (w : World) (m g : Nat) (F : Array Value) (os : Array Obj) (k : Nat) (hk : k < w.heap.size) :
    (Sort.grow (Sort.putRow id (Sort.ahead w m) g 0 F) os).heap[k]? = if k = g then (w.heap[k]?).map (Sort.onCells (Sort.putCells id 0 F)) else w.heap[k]? := by
  unfold Sort.grow Sort.putRow Sort.mapBlock Sort.ahead
  simp only
  rw [Array.getElem?_append_left (by simpa using hk), Array.getElem?_modify]
  by_cases e : g = k
  · subst e; simp
  · rw [if_neg e, if_neg (Ne.symm e)]
theorem so_sortedR {base n c g m : Nat} {w : World} {vs us : List Value} {os : Array Obj} (h : SO seR base w (.slice (some ⟨g, 0, none⟩) n c) n vs) (hl : us.length = 4 * n) (h1 : ∀ u ∈ us, u.oneCell' = true) :
    SO seR base (Sort.grow (Sort.putRow id (Sort.ahead w m) g 0 us.toArray) os) (.slice (some ⟨g, 0, none⟩) n c) n us := by
  rcases h.own.2 with ⟨hv, -⟩ | ⟨g', cap, cur, hv, hb, hh, hc, hm, hsz, ht⟩
  · cases hv
  · obtain ⟨rfl, rfl⟩ : g = g' ∧ c = cap := by simpa using hv
    refine ⟨⟨by rw [hl]; show 4 * n = n * 4; omega, .inr ⟨g, c, Sort.putCells id 0 us.toArray cur, rfl, hb, ?_, hc, hm, by simpa [Sort.putCells] using hsz, ?_⟩⟩, by rw [hl]; rfl, h1⟩
    · rw [sortedF_heap _ _ _ _ _ _ (Array.getElem?_eq_some_iff.1 hh).1, if_pos rfl, hh]; rfl
    · have hcs : cur.size = c * 4 := hsz
      apply List.ext_getElem?
      intro k
      show (List.take (n * 4) _)[k]? = _
      rw [List.getElem?_take]
      by_cases hk : k < n * 4
      · rw [if_pos hk]
        have h1 : k < cur.size := by omega
        have h2 : k < us.length := by omega
        simp [Sort.putCells, h1, h2, Array.getElem?_eq_getElem]
      · rw [if_neg hk, List.getElem?_eq_none (by omega)]
theorem so_sortedR_out {g m : Nat} {w : World} {F : Array Value} {os : Array Obj} : Out (fun k => k = g) w (Sort.grow (Sort.putRow id (Sort.ahead w m) g 0 F) os) :=
  ⟨rfl, rfl, rfl, by simp [Sort.grow, Sort.putRow, Sort.mapBlock, Sort.ahead], fun k hk hn => by
    rw [sortedF_heap _ _ _ _ _ _ hk, if_neg hn]⟩
theorem cmpLays9 (blk off size : Nat) (w : World) : CmpLays Tryz.prog 91 #[] rdC 4 cmpR blk off size w := fun _ _ _ _ x y => wpCmpR x y _
/-- Sorted, and none twice: it stands in order. -/
theorem sortedR_strict {d d' : Array Rd} (hp : Sort.PermIn 0 d.size d d') (hs : Sort.SortedIn (ltOf cmpR) 0 d.size d') (hd : d.toList.Nodup) : d'.toList.length = d.size ∧ (∀ y, y ∈ d'.toList ↔ y ∈ d.toList) ∧ d'.toList.Pairwise (aheadP · · = true) := by
  obtain ⟨e1, -, e3⟩ := hp
  have e4 : d'.toList.Perm d.toList := by
    have a1 : d'.extract 0 d.size = d' := by rw [← e1]; simp
    have a2 : d.extract 0 d.size = d := by simp
    rwa [a1, a2] at e3
  refine ⟨by simpa using e1, fun y => e4.mem_iff, ?_⟩
  rw [List.pairwise_iff_getElem]
  intro i j hi hj hij
  have hi' : i < d'.size := by simpa using hi
  have hj' : j < d'.size := by simpa using hj
  have h1 := hs i j (Nat.zero_le _) hij (by rw [← e1]; exact hj')
  rw [ltOf_cmpR, getElem!_pos d' i hi', getElem!_pos d' j hj'] at h1
  have hnd : d'.toList.Nodup := e4.nodup_iff.2 hd
  cases h2 : aheadP d'[i] d'[j] with
  | true => simpa using h2
  | false =>
    have h3 := ahead_tri _ _ h2 h1
    have h4 := (List.nodup_iff_pairwise_ne.1 hnd)
    rw [List.pairwise_iff_getElem] at h4
    exact absurd (by simpa using h3) (h4 i j hi hj hij)
/-- slices.SortFunc of a list that the call made. -/
theorem wsortR {base : Nat} {w : World} {v : Value} {ls : List Rd} (h : SO seR base w v ls.length (cellsR ls)) (hn : ls.length ≤ 4000000) (hd : ls.Nodup) :
    Calls Tryz.prog 90 #[v, .func (.func 91) #[] #[]] w fun e w' => e = .returned (.tuple #[]) ∧ (∃ ms : List Rd, ms.length = ls.length ∧ (∀ y, y ∈ ms ↔ y ∈ ls) ∧ ms.Pairwise (aheadP · · = true) ∧ SO seR base w' v ls.length (cellsR ms)) ∧ Below base w w' := by
  rcases h.own.2 with ⟨rfl, h0⟩ | ⟨g, cap, cur, rfl, hb, hh, -⟩
  · have hz : ls = [] := List.eq_nil_of_length_eq_zero h0
    subst hz
    have hcon := AnyF.slices_SortFunc_none Tryz.sortR none 0 (.func (.func 91) #[] #[]) w
    change Calls Tryz.prog 90 _ _ _ at hcon
    refine hcon.mono ?_
    rintro e w' ⟨h1, rfl⟩
    exact ⟨h1, ⟨[], rfl, fun y => Iff.rfl, List.Pairwise.nil, h⟩, Below.refl _ _⟩
  · obtain ⟨A, c, e1, hsb, -⟩ := h.form
    obtain ⟨rfl, rfl⟩ : A = some ⟨g, 0, none⟩ ∧ c = cap := by
      simp at e1; exact ⟨e1.1.symm, e1.2.symm⟩
    rw [show seR.s * ls.length = 4 * ls.length from rfl] at hsb
    have hF : (Sort.flatK rdC 4 ls.toArray).toList = cellsR ls := flat_cellsR ls.toArray
    have hH : Sort.HoldsK rdC 4 w g 0 ls.toArray := fun j hj => by
      have hj' : j < (cellsR ls).length := by rw [← hF]; simpa using hj
      obtain ⟨x, hx⟩ : ∃ x, (cellsR ls)[j]? = some x := ⟨_, List.getElem?_eq_getElem hj'⟩
      obtain ⟨g1, o1, e2, hc⟩ := hsb.at_ hx
      cases e2
      refine ⟨?_, frozen_of_row _ _ _ _ _ hh⟩
      rw [hc, getElem!_pos (Sort.flatK rdC 4 ls.toArray) j hj]
      rw [← hF, Array.getElem?_toList, Array.getElem?_eq_getElem hj] at hx
      exact congrArg some (Option.some.inj hx).symm
    have hlt := (Array.getElem?_eq_some_iff.1 hh).1
    have eg : ∀ args w, (callFunc 91 args).run Tryz.prog w = .ok (.enter 91 args) w := enters_of Tryz.func91 (by kernel_rfl) rfl
    have hcon := AnyQ.slices_SortFunc Tryz.sortR 4 Tryz.isAgg114 Tryz.sizeOf114 rdC (fun _ => rfl) (fun x v hv => by simp [rdC] at hv; rcases hv with rfl | rfl | rfl | rfl <;> rfl) cmpR swo_cmpR 91 #[] g 0 c ls.toArray w eg (cmpLays9 _ _ _ _) hH hlt (by simp; omega)
    change Calls Tryz.prog 90 _ _ _ at hcon
    refine hcon.mono ?_
    rintro e w' ⟨h1, d', m, os, hp, hs, rfl⟩
    obtain ⟨s1, s2, s3⟩ := sortedR_strict hp hs hd
    have hFd : Sort.flatK rdC 4 d' = (cellsR d'.toList).toArray := by rw [← flat_cellsR]
    refine ⟨h1, ⟨d'.toList, by simpa using s1, s2, s3, ?_⟩, ?_⟩
    · unfold sortWorldK Sort.putRowK
      rw [hFd]
      exact so_sortedR h (by rw [cellsR_len, s1]; simp) (cellsR_one _)
    · exact so_sortedR_out.below (by omega) fun i hi e => by omega
end Go.Proofs.YtknppiebncdjmaaGreat
