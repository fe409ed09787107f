/- Layer 9: strings.Compare, cmp.Compare, cmp.Or. -/
import Derived.Test.YtbmgeobmmpaghaaGreatDoorSRow
import Derived.Test.YtbmgeobmmpaghaaGreatDoorSOrd
import Derived.Lib.Bytealg
import Derived.Shelf.SlSortCmp.InsertionK
set_option linter.unusedVariables false
namespace Go.Proofs.YtbmgeobmmpaghaaGreatDoor
set_option maxRecDepth 100000
set_option maxRecDepth 100000
open Go.RowKit

theorem cb_lt8 : ∀ x y : List UInt8, decide (Lib.compareBytes x y < 0) = Op.bytesLess x y
  | [], [] => rfl
  | [], _ :: _ => rfl
  | _ :: _, [] => rfl
  | a :: x, b :: y => by
    have ih := cb_lt8 x y
    unfold Lib.compareBytes Op.bytesLess
    by_cases h1 : a < b
    · simp [h1]
    · by_cases h2 : b < a
      · have h3 : ¬ a = b := fun e => by subst e; exact h1 h2
        simp [h1, h2, h3]
      · have h3 : a = b := UInt8.le_antisymm (UInt8.not_lt.1 h2) (UInt8.not_lt.1 h1)
        subst h3
        simp only [h1, if_false, ih]
        simp
theorem cb_zero8 : ∀ x y : List UInt8, Lib.compareBytes x y = 0 ↔ x = y
  | [], [] => by simp [Lib.compareBytes]
  | [], _ :: _ => by simp [Lib.compareBytes]
  | _ :: _, [] => by simp [Lib.compareBytes]
  | a :: x, b :: y => by
    have ih := cb_zero8 x y
    unfold Lib.compareBytes
    by_cases h1 : a < b
    · have h3 : ¬ a = b := fun e => by subst e; exact UInt8.lt_irrefl _ h1
      simp [h1, h3]
    · by_cases h2 : b < a
      · have h3 : ¬ a = b := fun e => by subst e; exact UInt8.lt_irrefl _ h2
        simp [h1, h2, h3]
      · have h3 : a = b := UInt8.le_antisymm (UInt8.not_lt.1 h2) (UInt8.not_lt.1 h1)
        subst h3
        simp only [h1, if_false, ih]
        simp
def cmpS (a b : ByteArray) : Int := Lib.compareBytes a.data.toList b.data.toList
theorem cmpS_lt (a b : ByteArray) : decide (cmpS a b < 0) = klB a b := by
  unfold klB
  rw [ByteArray.toList_eq, ByteArray.toList_eq]
  exact cb_lt8 _ _
theorem cmpS_zero (a b : ByteArray) : cmpS a b = 0 ↔ a = b := by
  unfold cmpS
  rw [cb_zero8]
  cases a; cases b
  simp
/-- The world has grown and drawn, no more. -/
def Gs (w w' : World) : Prop := ∃ q os, w' = Sort.grow (w.drewN q) os
theorem Gs.refl (w : World) : Gs w w := ⟨0, #[], by simp [Sort.grow_empty]; rfl⟩
theorem Gs.alloc {w w' : World} (h : Gs w w') (o : Obj) : Gs w (w'.alloc o) := by
  obtain ⟨q, os, rfl⟩ := h
  exact ⟨q, os ++ #[o], by rw [Sort.alloc_eq_grow, Sort.grow_grow]⟩
theorem Gs.drewN {w w' : World} (h : Gs w w') (n : Nat) : Gs w (w'.drewN n) := by
  obtain ⟨q, os, rfl⟩ := h
  exact ⟨q + n, os, by unfold Sort.grow World.drewN; simp [Nat.add_assoc]⟩
theorem Gs.drew {w w' : World} (h : Gs w w') : Gs w w'.drew := h.drewN 1

theorem Gs.below {w w' : World} (h : Gs w w') : Below w.heap.size w w' := by
  obtain ⟨q, os, rfl⟩ := h
  refine ⟨rfl, rfl, rfl, by simp [Sort.grow, World.drewN], fun k hk => ?_⟩
  unfold Sort.grow World.drewN
  exact Array.getElem?_append_left hk
def cmpI (a b : Int) : Int := if a < b then -1 else if b < a then 1 else 0
theorem cmpI_lt (a b : Int) : decide (cmpI a b < 0) = decide (a < b) := by
  unfold cmpI
  split
  · simp [*]
  · split <;> simp [*]
theorem cmpI_zero (a b : Int) : cmpI a b = 0 ↔ a = b := by
  unfold cmpI
  split
  · simp; omega
  · split
    · simp; omega
    · simp; omega
set_option maxHeartbeats 2000000 in
theorem wcmp_int (a b : Int) (w : World) : Calls Tryz.prog 59 #[.int .i64 a, .int .i64 b] w fun e w' => e = .returned (.int .i64 (cmpI a b)) ∧ w' = w := by
  by_cases h1 : a < b
  · have HM := Lib.hid (show cmpI a b = -1 by unfold cmpI; rw [if_pos h1])
    go_enter Tryz.func59, Tryz.ntmps59
    go_wp2
    go_ret
    exact ⟨by rw [HM.out] <;> rfl, rfl⟩
  · by_cases h2 : b < a
    · have HM := Lib.hid (show cmpI a b = 1 by unfold cmpI; rw [if_neg h1, if_pos h2])
      go_enter Tryz.func59, Tryz.ntmps59
      go_wp2
      go_ret
      exact ⟨by rw [HM.out] <;> rfl, rfl⟩
    · have HM := Lib.hid (show cmpI a b = 0 by unfold cmpI; rw [if_neg h1, if_neg h2])
      go_enter Tryz.func59, Tryz.ntmps59
      go_wp2
      go_ret
      exact ⟨by rw [HM.out] <;> rfl, rfl⟩
def numV (l : List Int) : List Value := l.map (.int .i64)
def orP (xs : List Int) : Int := (xs.find? (fun x => decide (x ≠ 0))).getD 0
theorem orP_drop (xs : List Int) (k : Nat) (h : ∀ j x, j < k → xs[j]? = some x → x = 0) : orP xs = orP (xs.drop k) := by
  induction k generalizing xs with
  | zero => rfl
  | succ k ih =>
    cases xs with
    | nil => rfl
    | cons a xs =>
      have h0 := h 0 a (by omega) rfl
      subst h0
      have := ih xs fun j x hj hx => h (j + 1) x (by omega) (by simpa using hx)
      rw [List.drop_succ_cons, ← this]
      rfl
set_option maxHeartbeats 2000000 in
theorem wcmpOrL {w : World} {g n : Nat} {xs : List Int} (hl : xs.length = n) (hn : n ≤ 100) (hc : ∀ j x, xs[j]? = some x → w.cell? ⟨g, j, none⟩ = some (.int .i64 x)) : Calls Tryz.prog 58 #[.slice (some ⟨g, 0, none⟩) n n] w fun e w' => e = .returned (.int .i64 (orP xs)) ∧ w' = w := by
  have HC := Lib.hid hc
  have HL := Lib.hid hl
  have HN := Lib.hid hn
  clear hc hl hn
  go_enter Tryz.func58, Tryz.ntmps58
  go_upto_region 3 with fail
  go_loopw [8] (fun a' wz => ∃ k : Nat, a' = .int .i64 (k : Nat) ∧ k ≤ n ∧ wz = w ∧ ∀ j x, j < k → xs[j]? = some x → x = 0) (fun a' _ => n - (intOf a').toNat)
  case atStart => exact ⟨0, rfl, Nat.zero_le _, rfl, fun j x hj => absurd hj (by omega)⟩
  case round =>
    rename World => wz
    obtain ⟨k, rfl, hk, rfl, hz⟩ := hrel
    have HZ := Lib.hid hz
    have HD := Lib.hid (orP_drop xs k hz)
    clear hz
    by_cases hkn : k < n
    · obtain ⟨x, hx⟩ : ∃ x, xs[k]? = some x := ⟨_, List.getElem?_eq_getElem (by rw [HL.out]; exact hkn)⟩
      have c0 := HC.out k x hx
      have i1 : (k : Int) < (n : Int) := by omega
      have hk2 : k ≤ 100 := by have := HN.out; omega
      have HX := Lib.hid hx
      have HD2 := Lib.hid (show orP xs = if x ≠ 0 then x else orP (xs.drop (k + 1)) by
        rw [HD.out, List.drop_eq_getElem_cons (by rw [HL.out]; exact hkn)]
        rw [List.getElem?_eq_getElem (by rw [HL.out]; exact hkn)] at hx
        cases hx
        unfold orP
        have hkx : k < xs.length := by rw [HL.out]; exact hkn
        by_cases h0 : xs[k] = 0
        · rw [List.find?_cons_of_neg (by simpa using h0), if_neg (by simpa using h0)]
        · rw [List.find?_cons_of_pos (by simpa using h0), if_pos h0]; rfl)
      have HK := Lib.hid hkn
      clear hx hk hkn
      by_cases h0 : x = 0
      · subst h0
        go_wp2
        go_roundw
        case rel => exact ⟨k + 1, by go_num, HK.out, by first | rfl | trivial, fun j x hj hx => by
          rcases Nat.lt_or_ge j k with h1 | h1
          · exact HZ.out j x h1 hx
          · have : j = k := by omega
            subst this
            rw [HX.out] at hx
            cases hx; rfl⟩
        case measure => have := HK.out; simp [intOf]; omega
      · have HR := Lib.hid (show orP xs = x by rw [HD2.out, if_pos h0])
        go_wp2
        go_ret
        exact ⟨by rw [HR.out] <;> rfl, rfl⟩
    · have hkn2 : k = n := by omega
      have HR := Lib.hid (show orP xs = 0 by rw [HD.out, List.drop_eq_nil_of_le (by rw [HL.out, hkn2]; exact Nat.le_refl _)]; rfl)
      have i1 : ¬ (k : Int) < (n : Int) := by omega
      clear hkn hk hkn2
      go_wp2
      go_ret
      exact ⟨by rw [HR.out] <;> rfl, rfl⟩
end Go.Proofs.YtbmgeobmmpaghaaGreatDoor
