import Derived.Test.YtcpifanhmkblmaaSRow
import Derived.Test.YtcpifanhmkblmaaJAE
import Derived.Lib.Bytealg
import Derived.Shelf.SlSortCmp.InsertionK
/- Layer 9: strings.Compare, cmp.Compare, cmp.Or. -/
namespace Go.Proofs.Ytcpifanhmkblmaa
set_option maxRecDepth 100000
set_option maxRecDepth 100000
open Go.RowKit

theorem cb_lt8 : ∀ x y : List UInt8, decide (Lib.compareBytes x y < 0) = Op.bytesLess x y
  | [], [] => rfl
  | [], _ :: _ => rfl
  | _ :: _, [] => rfl
  | a :: x, b :: y => by
    have ih := cb_lt8 x y
    unfold Lib.compareBytes Op.bytesLess
    by_cases h1 : a < b
    · simp [h1]
    · by_cases h2 : b < a
      · have h3 : ¬ a = b := fun e => by subst e; exact h1 h2
        simp [h1, h2, h3]
      · have h3 : a = b := UInt8.le_antisymm (UInt8.not_lt.1 h2) (UInt8.not_lt.1 h1)
        subst h3
        simp only [h1, if_false, ih]
        simp
theorem cb_zero8 : ∀ x y : List UInt8, Lib.compareBytes x y = 0 ↔ x = y
  | [], [] => by simp [Lib.compareBytes]
  | [], _ :: _ => by simp [Lib.compareBytes]
  | _ :: _, [] => by simp [Lib.compareBytes]
  | a :: x, b :: y => by
    have ih := cb_zero8 x y
    unfold Lib.compareBytes
    by_cases h1 : a < b
    · have h3 : ¬ a = b := fun e => by subst e; exact UInt8.lt_irrefl _ h1
      simp [h1, h3]
    · by_cases h2 : b < a
      · have h3 : ¬ a = b := fun e => by subst e; exact UInt8.lt_irrefl _ h2
        simp [h1, h2, h3]
      · have h3 : a = b := UInt8.le_antisymm (UInt8.not_lt.1 h2) (UInt8.not_lt.1 h1)
        subst h3
        simp only [h1, if_false, ih]
        simp
def cmpS (a b : ByteArray) : Int := Lib.compareBytes a.data.toList b.data.toList
theorem cmpS_lt (a b : ByteArray) : decide (cmpS a b < 0) = klB a b := by
  unfold klB
  rw [ByteArray.toList_eq, ByteArray.toList_eq]
  exact cb_lt8 _ _
theorem cmpS_zero (a b : ByteArray) : cmpS a b = 0 ↔ a = b := by
  unfold cmpS
  rw [cb_zero8]
  cases a; cases b
  simp
/-- The world has grown and drawn, no more. -/
def Gs (w w' : World) : Prop := ∃ q os, w' = Sort.grow (w.drewN q) os
theorem Gs.refl (w : World) : Gs w w := ⟨0, #[], by simp [Sort.grow_empty]; rfl⟩
theorem Gs.alloc {w w' : World} (h : Gs w w') (o : Obj) : Gs w (w'.alloc o) := by
  obtain ⟨q, os, rfl⟩ := h
  exact ⟨q, os ++ #[o], by rw [Sort.alloc_eq_grow, Sort.grow_grow]⟩
theorem Gs.drewN {w w' : World} (h : Gs w w') (n : Nat) : Gs w (w'.drewN n) := by
  obtain ⟨q, os, rfl⟩ := h
  exact ⟨q + n, os, by unfold Sort.grow World.drewN; simp [Nat.add_assoc]⟩
theorem Gs.drew {w w' : World} (h : Gs w w') : Gs w w'.drew := h.drewN 1

set_option maxHeartbeats 1000000 in
theorem wcmpStr (a b : ByteArray) (w : World) : Calls Try.prog 65 #[.string a, .string b] w fun e w' => e = .returned (.int .i64 (cmpS a b)) ∧ w' = w := by
  go_enter Try.func65, Try.ntmps65
  go_wp2
  rw [run_callFunc_extern Try.func93 (by kernel_rfl) (by kernel_rfl) (by kernel_rfl) (e := Extern.BytealgCompare.compare) (by kernel_rfl), Lib.run_compareString]
  simp only [Result.andThen]
  rw [Oper.upon_value]
  go_wp2
  go_ret
  exact ⟨rfl, rfl⟩
set_option maxHeartbeats 1000000 in
theorem wstrCmp (a b : ByteArray) (w : World) : Calls Try.prog 54 #[.string a, .string b] w fun e w' => e = .returned (.int .i64 (cmpS a b)) ∧ w' = w := by
  have CC := Lib.hid (wcmpStr a b w)
  go_enter Try.func54, Try.ntmps54
  go_wp2_with (go_at_call 65; go_loud (refine CC.out.mono ?_; rintro e w1 ⟨rfl, hw⟩; replace hw := hw.symm; subst hw))
  go_ret
  exact ⟨rfl, rfl⟩
theorem Gs.below {w w' : World} (h : Gs w w') : Below w.heap.size w w' := by
  obtain ⟨q, os, rfl⟩ := h
  refine ⟨rfl, rfl, rfl, by simp [Sort.grow, World.drewN], fun k hk => ?_⟩
  unfold Sort.grow World.drewN
  exact Array.getElem?_append_left hk
def cmpI (a b : Int) : Int := if a < b then -1 else if b < a then 1 else 0
theorem cmpI_lt (a b : Int) : decide (cmpI a b < 0) = decide (a < b) := by
  unfold cmpI
  split
  · simp [*]
  · split <;> simp [*]
theorem cmpI_zero (a b : Int) : cmpI a b = 0 ↔ a = b := by
  unfold cmpI
  split
  · simp; omega
  · split
    · simp; omega
    · simp; omega
set_option maxHeartbeats 2000000 in
theorem wcmp_int (a b : Int) (w : World) : Calls Try.prog 55 #[.int .i64 a, .int .i64 b] w fun e w' => e = .returned (.int .i64 (cmpI a b)) ∧ w' = w := by
  by_cases h1 : a < b
  · have HM := Lib.hid (show cmpI a b = -1 by unfold cmpI; rw [if_pos h1])
    go_enter Try.func55, Try.ntmps55
    go_wp2
    go_ret
    exact ⟨by rw [HM.out] <;> rfl, rfl⟩
  · by_cases h2 : b < a
    · have HM := Lib.hid (show cmpI a b = 1 by unfold cmpI; rw [if_neg h1, if_pos h2])
      go_enter Try.func55, Try.ntmps55
      go_wp2
      go_ret
      exact ⟨by rw [HM.out] <;> rfl, rfl⟩
    · have HM := Lib.hid (show cmpI a b = 0 by unfold cmpI; rw [if_neg h1, if_neg h2])
      go_enter Try.func55, Try.ntmps55
      go_wp2
      go_ret
      exact ⟨by rw [HM.out] <;> rfl, rfl⟩
set_option maxHeartbeats 2000000 in
theorem wcmp_int64 (a b : Int) (w : World) : Calls Try.prog 73 #[.int .i64 a, .int .i64 b] w fun e w' => e = .returned (.int .i64 (cmpI a b)) ∧ w' = w := by
  by_cases h1 : a < b
  · have HM := Lib.hid (show cmpI a b = -1 by unfold cmpI; rw [if_pos h1])
    go_enter Try.func73, Try.ntmps73
    go_wp2
    go_ret
    exact ⟨by rw [HM.out] <;> rfl, rfl⟩
  · by_cases h2 : b < a
    · have HM := Lib.hid (show cmpI a b = 1 by unfold cmpI; rw [if_neg h1, if_pos h2])
      go_enter Try.func73, Try.ntmps73
      go_wp2
      go_ret
      exact ⟨by rw [HM.out] <;> rfl, rfl⟩
    · have HM := Lib.hid (show cmpI a b = 0 by unfold cmpI; rw [if_neg h1, if_neg h2])
      go_enter Try.func73, Try.ntmps73
      go_wp2
      go_ret
      exact ⟨by rw [HM.out] <;> rfl, rfl⟩

def numV (l : List Int) : List Value := l.map (.int .i64)
def orP (xs : List Int) : Int := (xs.find? (fun x => decide (x ≠ 0))).getD 0
theorem orP_drop (xs : List Int) (k : Nat) (h : ∀ j x, j < k → xs[j]? = some x → x = 0) : orP xs = orP (xs.drop k) := by
  induction k generalizing xs with
  | zero => rfl
  | succ k ih =>
    cases xs with
    | nil => rfl
    | cons a xs =>
      have h0 := h 0 a (by omega) rfl
      subst h0
      have := ih xs fun j x hj hx => h (j + 1) x (by omega) (by simpa using hx)
      rw [List.drop_succ_cons, ← this]
      rfl
set_option maxHeartbeats 2000000 in
theorem wcmpOrL {w : World} {g n : Nat} {xs : List Int} (hl : xs.length = n) (hn : n ≤ 100) (hc : ∀ j x, xs[j]? = some x → w.cell? ⟨g, j, none⟩ = some (.int .i64 x)) : Calls Try.prog 53 #[.slice (some ⟨g, 0, none⟩) n n] w fun e w' => e = .returned (.int .i64 (orP xs)) ∧ w' = w := by
  have HC := Lib.hid hc
  have HL := Lib.hid hl
  have HN := Lib.hid hn
  clear hc hl hn
  go_enter Try.func53, Try.ntmps53
  go_upto_region 3 with fail
  go_loopw [8] (fun a' wz => ∃ k : Nat, a' = .int .i64 (k : Nat) ∧ k ≤ n ∧ wz = w ∧ ∀ j x, j < k → xs[j]? = some x → x = 0) (fun a' _ => n - (intOf a').toNat)
  case atStart => exact ⟨0, rfl, Nat.zero_le _, rfl, fun j x hj => absurd hj (by omega)⟩
  case round =>
    rename World => wz
    obtain ⟨k, rfl, hk, rfl, hz⟩ := hrel
    have HZ := Lib.hid hz
    have HD := Lib.hid (orP_drop xs k hz)
    clear hz
    by_cases hkn : k < n
    · obtain ⟨x, hx⟩ : ∃ x, xs[k]? = some x := ⟨_, List.getElem?_eq_getElem (by rw [HL.out]; exact hkn)⟩
      have c0 := HC.out k x hx
      have i1 : (k : Int) < (n : Int) := by omega
      have hk2 : k ≤ 100 := by have := HN.out; omega
      have HX := Lib.hid hx
      have HD2 := Lib.hid (show orP xs = if x ≠ 0 then x else orP (xs.drop (k + 1)) by
        rw [HD.out, List.drop_eq_getElem_cons (by rw [HL.out]; exact hkn)]
        rw [List.getElem?_eq_getElem (by rw [HL.out]; exact hkn)] at hx
        cases hx
        unfold orP
        have hkx : k < xs.length := by rw [HL.out]; exact hkn
        by_cases h0 : xs[k] = 0
        · rw [List.find?_cons_of_neg (by simpa using h0), if_neg (by simpa using h0)]
        · rw [List.find?_cons_of_pos (by simpa using h0), if_pos h0]; rfl)
      have HK := Lib.hid hkn
      clear hx hk hkn
      by_cases h0 : x = 0
      · subst h0
        go_wp2
        go_roundw
        case rel => exact ⟨k + 1, by go_num, HK.out, by first | rfl | trivial, fun j x hj hx => by
          rcases Nat.lt_or_ge j k with h1 | h1
          · exact HZ.out j x h1 hx
          · have : j = k := by omega
            subst this
            rw [HX.out] at hx
            cases hx; rfl⟩
        case measure => have := HK.out; simp [intOf]; omega
      · have HR := Lib.hid (show orP xs = x by rw [HD2.out, if_pos h0])
        go_wp2
        go_ret
        exact ⟨by rw [HR.out] <;> rfl, rfl⟩
    · have hkn2 : k = n := by omega
      have HR := Lib.hid (show orP xs = 0 by rw [HD.out, List.drop_eq_nil_of_le (by rw [HL.out, hkn2]; exact Nat.le_refl _)]; rfl)
      have i1 : ¬ (k : Int) < (n : Int) := by omega
      clear hkn hk hkn2
      go_wp2
      go_ret
      exact ⟨by rw [HR.out] <;> rfl, rfl⟩
end Go.Proofs.Ytcpifanhmkblmaa

/- Layer 9: two pairs compared. -/
namespace Go.Proofs.Ytcpifanhmkblmaa
set_option maxRecDepth 100000
set_option maxRecDepth 100000
open Go.RowKit

def cmpPr (a b : Int × ByteArray) : Int := orP [cmpI a.1 b.1, cmpS a.2 b.2]
theorem cmpPr_lt (a b : Int × ByteArray) : decide (cmpPr a b < 0) = pairLt a b := by
  unfold cmpPr orP pairLt
  by_cases h : a.1 = b.1
  · have h0 := (cmpI_zero a.1 b.1).2 h
    rw [List.find?_cons_of_neg (by simpa using h0)]
    by_cases h2 : a.2 = b.2
    · have h3 := (cmpS_zero a.2 b.2).2 h2
      rw [List.find?_cons_of_neg (by simpa using h3)]
      rw [h2, klB_irrefl]
      simp [h]
    · have h3 : ¬ cmpS a.2 b.2 = 0 := fun e => h2 ((cmpS_zero _ _).1 e)
      rw [List.find?_cons_of_pos (by simpa using h3)]
      simp only [Option.getD_some]
      rw [cmpS_lt]
      simp [h]
  · have h0 : ¬ cmpI a.1 b.1 = 0 := fun e => h ((cmpI_zero _ _).1 e)
    rw [List.find?_cons_of_pos (by simpa using h0)]
    simp only [Option.getD_some]
    rw [cmpI_lt]
    simp [h]
theorem row_at {w : World} {g : Nat} {vs : Array Value} {e : TypeId} {xs : List Int} (h : w.heap[g]? = some (.cells vs e (0, 0))) (hv : vs.toList = numV xs) : ∀ j x, xs[j]? = some x → w.cell? ⟨g, j, none⟩ = some (.int .i64 x) := fun j x hx => by
  have := cell_of_row w g j _ _ _ h
  rw [this]
  have h2 : vs.toList[j]? = some (.int .i64 x) := by rw [hv]; simp [numV, hx]
  rw [Array.getElem?_toList] at h2
  exact h2
set_option maxHeartbeats 8000000 in
theorem wpComparePairs (a b : Int × ByteArray) (w : World) : Calls Try.prog 58 #[.agg #[.int .i64 a.1, .string a.2], .agg #[.int .i64 b.1, .string b.2]] w fun e w' => e = .returned (.int .i64 (cmpPr a b)) ∧ Gs w w' := by
  obtain ⟨W1, hW1⟩ : ∃ W, w.alloc (.cells #[.int .i64 a.1, .string a.2] 65) = W := ⟨_, rfl⟩
  obtain ⟨W2, hW2⟩ : ∃ W, W1.alloc (.cells #[.int .i64 b.1, .string b.2] 65) = W := ⟨_, rfl⟩
  have g1 : Gs w W1 := by rw [← hW1]; exact (Gs.refl w).alloc _
  have GG := Lib.hid (show Gs w W2 by rw [← hW2]; exact g1.alloc _)
  have q0 : W2.heap[w.heap.size]? = some (.cells #[.int .i64 a.1, .string a.2] 65 (0, 0)) := by
    rw [← hW2, Below.heap_alloc _ _ _ (by rw [← hW1]; simp), ← hW1]; exact heap_alloc_new _ _
  have q1 : W2.heap[w.heap.size + 1]? = some (.cells #[.int .i64 b.1, .string b.2] 65 (0, 0)) := by
    rw [show w.heap.size + 1 = W1.heap.size by rw [← hW1]; simp, ← hW2]; exact heap_alloc_new _ _
  have S0 : W2.cell? ⟨w.heap.size, 0, none⟩ = some (.int .i64 a.1) ∧ W2.cell? ⟨w.heap.size, 1, none⟩ = some (.string a.2) ∧ W2.cell? ⟨w.heap.size + 1, 0, none⟩ = some (.int .i64 b.1) ∧ W2.cell? ⟨w.heap.size + 1, 1, none⟩ = some (.string b.2) :=
    ⟨cell_of_row _ _ 0 _ _ _ q0, cell_of_row _ _ 1 _ _ _ q0, cell_of_row _ _ 0 _ _ _ q1, cell_of_row _ _ 1 _ _ _ q1⟩
  have S1 : ∀ o, (W2.alloc o).cell? ⟨w.heap.size, 0, none⟩ = some (.int .i64 a.1) ∧ (W2.alloc o).cell? ⟨w.heap.size, 1, none⟩ = some (.string a.2) ∧ (W2.alloc o).cell? ⟨w.heap.size + 1, 0, none⟩ = some (.int .i64 b.1) ∧ (W2.alloc o).cell? ⟨w.heap.size + 1, 1, none⟩ = some (.string b.2) := fun o => by
    have hb : Below W2.heap.size W2 (W2.alloc o) := (Below.refl _ _).alloc (Nat.le_refl _) o
    exact ⟨keep_below S0.1 hb, keep_below S0.2.1 hb, keep_below S0.2.2.1 hb, keep_below S0.2.2.2 hb⟩
  obtain ⟨x, hx⟩ : ∃ x, cmpI a.1 b.1 = x := ⟨_, rfl⟩
  obtain ⟨y, hy⟩ : ∃ y, cmpS a.2 b.2 = y := ⟨_, rfl⟩
  have C1 := Lib.hid (fun W => wcmp_int64 a.1 b.1 W)
  have C2 := Lib.hid (fun W => wstrCmp a.2 b.2 W)
  rw [hx] at C1
  rw [hy] at C2
  have HW1 := Lib.hid hW1
  have HW2 := Lib.hid hW2
  have HE := Lib.hid (show cmpPr a b = orP [x, y] by unfold cmpPr; rw [hx, hy])
  rw [HE.out]
  have C3 := Lib.hid (fun (W : World) (o : Nat) (h : W.heap[o]? = some (.cells #[.int .i64 x, .int .i64 y] 3 (0, 0))) => wcmpOrL (n := 2) (xs := [x, y]) rfl (by omega) (row_at h rfl))
  generalize orP [x, y] = z at C3 ⊢
  clear hW1 hW2 g1 q0 q1 hx hy HE
  go_enter Try.func58, Try.ntmps58
  go_upto_region 1 with fail
  rw [HW1.out, HW2.out]
  go_region_held3 (fun w' => w'.cell? ⟨w.heap.size, 0, none⟩ = some (.int .i64 a.1) ∧ w'.cell? ⟨w.heap.size, 1, none⟩ = some (.string a.2) ∧ w'.cell? ⟨w.heap.size + 1, 0, none⟩ = some (.int .i64 b.1) ∧ w'.cell? ⟨w.heap.size + 1, 1, none⟩ = some (.string b.2))
    (first | exact S0 | exact S1 _)
    (first
      | (go_at_call 73; go_loud (refine (C1.out _).mono ?_; rintro e w1 ⟨rfl, hw⟩; replace hw := hw.symm; subst hw))
      | (go_at_call 54; go_loud (refine (C2.out _).mono ?_; rintro e w1 ⟨rfl, hw⟩; replace hw := hw.symm; subst hw))
      | (go_at_call 53; go_loud (refine (C3.out _ _ (by exact heap_alloc_new W2 _)).mono ?_; rintro e w3 ⟨rfl, hw⟩; replace hw := hw.symm; subst hw)))
  all_goals
    go_wp2
    go_ret
    exact ⟨rfl, by first | exact GG.out.alloc _ | exact GG.out.drew.alloc _⟩
end Go.Proofs.Ytcpifanhmkblmaa
