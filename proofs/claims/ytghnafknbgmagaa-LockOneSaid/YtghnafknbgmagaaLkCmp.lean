/- Layer 8: two locks compared: strings.Compare, cmp.Or, the manager's compare; it is the order of locks. -/
import Derived.Test.YtghnafknbgmagaaLkOrd
import Derived.Lib.Bytealg
import Derived.Shelf.SlSortCmp.InsertionK
namespace Go.Proofs.Ytghnafknbgmagaa
set_option maxRecDepth 100000
set_option maxRecDepth 100000
open Go.RowKit

theorem cb_lt8 : ∀ x y : List UInt8, decide (Lib.compareBytes x y < 0) = Op.bytesLess x y
  | [], [] => rfl
  | [], _ :: _ => rfl
  | _ :: _, [] => rfl
  | a :: x, b :: y => by
    have ih := cb_lt8 x y
    unfold Lib.compareBytes Op.bytesLess
    by_cases h1 : a < b
    · simp [h1]
    · by_cases h2 : b < a
      · have h3 : ¬ a = b := fun e => by subst e; exact h1 h2
        simp [h1, h2, h3]
      · have h3 : a = b := UInt8.le_antisymm (UInt8.not_lt.1 h2) (UInt8.not_lt.1 h1)
        subst h3
        simp only [h1, if_false, ih]
        simp
theorem cb_zero8 : ∀ x y : List UInt8, Lib.compareBytes x y = 0 ↔ x = y
  | [], [] => by simp [Lib.compareBytes]
  | [], _ :: _ => by simp [Lib.compareBytes]
  | _ :: _, [] => by simp [Lib.compareBytes]
  | a :: x, b :: y => by
    have ih := cb_zero8 x y
    unfold Lib.compareBytes
    by_cases h1 : a < b
    · have h3 : ¬ a = b := fun e => by subst e; exact UInt8.lt_irrefl _ h1
      simp [h1, h3]
    · by_cases h2 : b < a
      · have h3 : ¬ a = b := fun e => by subst e; exact UInt8.lt_irrefl _ h2
        simp [h1, h2, h3]
      · have h3 : a = b := UInt8.le_antisymm (UInt8.not_lt.1 h2) (UInt8.not_lt.1 h1)
        subst h3
        simp only [h1, if_false, ih]
        simp
def cmpS (a b : ByteArray) : Int := Lib.compareBytes a.data.toList b.data.toList
/-- What the manager's compare says of two locks. -/
def cmpB (a b : Lk) : Int := if cmpS a.1 b.1 ≠ 0 then cmpS a.1 b.1 else cmpS a.2 b.2
theorem cmpS_lt (a b : ByteArray) : decide (cmpS a b < 0) = klB a b := by
  unfold klB
  rw [ByteArray.toList_eq, ByteArray.toList_eq]
  exact cb_lt8 _ _
theorem cmpS_zero (a b : ByteArray) : cmpS a b = 0 ↔ a = b := by
  unfold cmpS
  rw [cb_zero8]
  cases a; cases b
  simp
theorem ltOf_cmpB (a b : Lk) : ltOf cmpB a b = lessB a b := by
  unfold ltOf cmpB lessB
  rw [toList_beq8]
  by_cases h : a.1 = b.1
  · rw [if_neg (by simpa using (cmpS_zero _ _).2 h), cmpS_lt]
    rw [h, klB_irrefl]
    simp
  · rw [if_pos (by intro e; exact h ((cmpS_zero _ _).1 e)), cmpS_lt]
    simp [h]
theorem swo_cmpB : Sort.SWO (ltOf cmpB) where
  irrefl x := by rw [ltOf_cmpB]; exact lessB_irr x
  trans x y z h1 h2 := by rw [ltOf_cmpB] at *; exact lessB_tr _ _ _ h1 h2
  ntrans x y z h1 h2 := by
    rw [ltOf_cmpB] at *
    cases h3 : lessB x z with
    | false => rfl
    | true =>
      cases h4 : lessB y x with
      | true => rw [lessB_tr _ _ _ h4 h3] at h2; cases h2
      | false => rw [lessB_tri _ _ h1 h4] at h3; rw [h2] at h3; cases h3

/-- The world has grown and drawn, no more. -/
def Gs (w w' : World) : Prop := ∃ q os, w' = Sort.grow (w.drewN q) os
theorem Gs.refl (w : World) : Gs w w := ⟨0, #[], by simp [Sort.grow_empty]; rfl⟩
theorem Gs.alloc {w w' : World} (h : Gs w w') (o : Obj) : Gs w (w'.alloc o) := by
  obtain ⟨q, os, rfl⟩ := h
  exact ⟨q, os ++ #[o], by rw [Sort.alloc_eq_grow, Sort.grow_grow]⟩
theorem Gs.drewN {w w' : World} (h : Gs w w') (n : Nat) : Gs w (w'.drewN n) := by
  obtain ⟨q, os, rfl⟩ := h
  exact ⟨q + n, os, by unfold Sort.grow World.drewN; simp [Nat.add_assoc]⟩
theorem Gs.drew {w w' : World} (h : Gs w w') : Gs w w'.drew := h.drewN 1

set_option maxHeartbeats 1000000 in
theorem wcmpStr (a b : ByteArray) (w : World) : Calls Try.prog 55 #[.string a, .string b] w fun e w' => e = .returned (.int .i64 (cmpS a b)) ∧ w' = w := by
  go_enter Try.func55, Try.ntmps55
  go_wp2
  rw [run_callFunc_extern Try.func70 (by kernel_rfl) (by kernel_rfl) (by kernel_rfl) (e := Extern.BytealgCompare.compare) (by kernel_rfl), Lib.run_compareString]
  simp only [Result.andThen]
  rw [Oper.upon_value]
  go_wp2
  go_ret
  exact ⟨rfl, rfl⟩
set_option maxHeartbeats 1000000 in
theorem wstrCmp (a b : ByteArray) (w : World) : Calls Try.prog 43 #[.string a, .string b] w fun e w' => e = .returned (.int .i64 (cmpS a b)) ∧ w' = w := by
  have CC := Lib.hid (wcmpStr a b w)
  go_enter Try.func43, Try.ntmps43
  go_wp2_with (go_at_call 55; go_loud (refine CC.out.mono ?_; rintro e w1 ⟨rfl, hw⟩; replace hw := hw.symm; subst hw))
  go_ret
  exact ⟨rfl, rfl⟩
set_option maxHeartbeats 2000000 in
theorem wcmpOr {w : World} {g : Nat} {x y : Int} (c0 : w.cell? ⟨g, 0, none⟩ = some (.int .i64 x)) (c1 : w.cell? ⟨g, 1, none⟩ = some (.int .i64 y)) : Calls Try.prog 42 #[.slice (some ⟨g, 0, none⟩) 2 2] w fun e w' => e = .returned (.int .i64 (if x ≠ 0 then x else y)) ∧ w' = w := by
  by_cases h1 : x = 0
  · by_cases h2 : y = 0
    · subst h1; subst h2
      go_enter Try.func42, Try.ntmps42
      go_upto_region 3 with fail
      refine wp_loop_rounds 3 ?_
      rw [rounds_succ]
      go_wp2
      rw [rounds_succ]
      go_wp2
      rw [rounds_succ]
      go_wp2
      go_ret
      exact ⟨by simp, rfl⟩
    · subst h1
      go_enter Try.func42, Try.ntmps42
      go_upto_region 3 with fail
      refine wp_loop_rounds 2 ?_
      rw [rounds_succ]
      go_wp2
      rw [rounds_succ]
      go_wp2
      go_ret
      exact ⟨by simp, rfl⟩
  · go_enter Try.func42, Try.ntmps42
    go_upto_region 3 with fail
    refine wp_loop_rounds 1 ?_
    rw [rounds_succ]
    go_wp2
    go_ret
    exact ⟨by simp [h1], rfl⟩
end Go.Proofs.Ytghnafknbgmagaa
