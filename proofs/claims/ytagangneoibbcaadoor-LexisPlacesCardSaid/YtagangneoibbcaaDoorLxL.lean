/- Layer 12: Place, the program's and the reference's. -/
import Derived.Test.YtagangneoibbcaaDoorLxTk
set_option linter.unusedVariables false
namespace Go.Proofs.YtagangneoibbcaaDoor
set_option maxRecDepth 100000
set_option maxRecDepth 100000
open Go.RowKit Go.Shelf

theorem ret_3i {a b a' b' c c' : Int} (h1 : a = a') (h2 : b = b') (h3 : c = c') : Ending.returned (.tuple #[.int .i64 a, .int .i64 b, .int .i64 c]) = .returned (.tuple #[.int .i64 a', .int .i64 b', .int .i64 c']) := by rw [h1, h2, h3]
/-- The line of a place, and the column. -/
def lineP (s : ByteArray) (k : Nat) : Nat := 1 + (s.data.toList.take k).count 10
def colP (s : ByteArray) (k : Nat) : Int := (k : Int) - Lib.lastIdx s 10 k
theorem lineP_snoc (s : ByteArray) (k : Nat) (h : k < s.size) : lineP s (k + 1) = lineP s k + if ((s[k]'h).toNat : Int) = 10 then 1 else 0 := by
  unfold lineP
  have ht : s.data.toList.take (k + 1) = s.data.toList.take k ++ [s[k]'h] := by
    rw [List.take_succ_eq_append_getElem (by simpa using h)]; rfl
  rw [ht, List.count_append, List.count_singleton]
  have e : ((s[k]'h) == (10 : UInt8)) = decide (((s[k]'h).toNat : Int) = 10) := by
    rw [Bool.eq_iff_iff]
    simp only [beq_iff_eq, decide_eq_true_eq]
    constructor
    · intro h; rw [h]; rfl
    · intro h; apply UInt8.toNat_inj.1; have : (10 : UInt8).toNat = 10 := rfl; omega
  rw [e]
  by_cases h10 : ((s[k]'h).toNat : Int) = 10 <;> simp [h10, Nat.add_assoc]
theorem lineP_le (s : ByteArray) (k : Nat) : lineP s k ≤ k + 1 := by
  unfold lineP
  have h1 := List.count_le_length (a := (10 : UInt8)) (l := s.data.toList.take k)
  have h2 : (s.data.toList.take k).length ≤ k := List.length_take_le _ _
  omega
theorem lastIdx_le (s : ByteArray) (c : Int) : ∀ k : Nat, -1 ≤ Lib.lastIdx s c k ∧ Lib.lastIdx s c k < k
  | 0 => by simp [Lib.lastIdx]
  | k + 1 => by
    have := lastIdx_le s c k
    unfold Lib.lastIdx
    split <;> omega
theorem data_sub (s : ByteArray) (k : Nat) : (s.extract 0 k).data.toList = s.data.toList.take k := by
  rw [ByteArray.data_extract, Array.toList_extract, List.extract_eq_take_drop]
  simp
theorem getBang (l : List UInt8) (a : Array UInt8) (h : a.toList = l) (j : Nat) : a[j]! = (l[j]?).getD default := by
  subst h
  simp [getElem!_def, Array.getElem?_toList]
  cases a[j]? <;> rfl
theorem lastIdx_sub (s : ByteArray) (c : Int) (k : Nat) : ∀ j : Nat, j ≤ k → Lib.lastIdx (s.extract 0 k) c j = Lib.lastIdx s c j
  | 0, _ => rfl
  | j + 1, h => by
    have hj := lastIdx_sub s c k j (by omega)
    have e : (s.extract 0 k).data[j]! = s.data[j]! := by
      rw [getBang _ _ (data_sub s k) j, getBang _ _ rfl j, List.getElem?_take_of_lt (by omega)]
    unfold Lib.lastIdx
    rw [e, hj]
set_option maxHeartbeats 4000000 in
theorem wPlaceNo (s : ByteArray) (z : Int) (w : World) (hs : s.size ≤ 140737488351232) (h : z < 0 ∨ (s.size : Int) < z) :
    Calls Tryd.prog 20 #[.string s, .int .i64 z] w fun e w' => e = .returned (.tuple #[.int .i64 0, .int .i64 0, .int .i64 1]) ∧ w = w' := by
  rcases h with h | h
  · go_enter Tryd.func20, Tryd.ntmps20
    go_wp2
    go_ret3
    exact ⟨rfl, rfl⟩
  · have h0 : ¬ z < 0 := by omega
    go_enter Tryd.func20, Tryd.ntmps20
    go_wp2
    go_ret3
    exact ⟨rfl, rfl⟩
set_option maxHeartbeats 4000000 in
theorem wPlace (s : ByteArray) (k : Nat) (w : World) (hs : s.size ≤ 140737488351232) (hk : k ≤ s.size) :
    Calls Tryd.prog 20 #[.string s, .int .i64 (k : Nat)] w fun e w' => e = .returned (.tuple #[.int .i64 (lineP s k : Nat), .int .i64 (colP s k), .int .i64 0]) ∧ w = w' := by
  have hsz : (s.extract 0 k).size = k := by simp; omega
  have CC := Lib.hid (show ∀ W, Calls Tryd.prog 35 #[.string (s.extract 0 k), .string ⟨#[10]⟩] W fun e w' => e = .returned (.int .i64 ((lineP s k : Nat) - 1 : Int)) ∧ W = w' from fun W => (Any.strings_Count_one Tryd.countS (s.extract 0 k) 10 W).mono fun e w' h => ⟨by
    rw [h.1]; congr 2; unfold Lib.countByte lineP; rw [data_sub]; omega, h.2.symm⟩)
  have CX := Lib.hid (show ∀ W, Calls Tryd.prog 36 #[.string (s.extract 0 k), .string ⟨#[10]⟩] W fun e w' => e = .returned (.int .i64 (Lib.lastIdx s 10 k)) ∧ W = w' from fun W => (Any.strings_LastIndex_one Tryd.lastI (s.extract 0 k) ⟨#[10]⟩ rfl (by rw [hsz]; omega) W).mono fun e w' h => ⟨by
    rw [h.1]; congr 2; unfold Lib.lastIndexByte; rw [hsz]; exact lastIdx_sub s 10 k k (Nat.le_refl _), h.2.symm⟩)
  have hl := lineP_le s k
  have hx := lastIdx_le s 10 k
  have hl0 : 1 ≤ lineP s k := by unfold lineP; omega
  have HCO := Lib.hid (show (k : Int) - Lib.lastIdx s 10 k = colP s k from rfl)
  obtain ⟨n, hn⟩ : ∃ n : Int, ((lineP s k : Nat) : Int) - 1 = n := ⟨_, rfl⟩
  obtain ⟨x, hxx⟩ : ∃ x, Lib.lastIdx s 10 k = x := ⟨_, rfl⟩
  rw [hn] at CC
  rw [hxx] at CX HCO hx
  have HN := Lib.hid hn
  have n0 : 0 ≤ n := by omega
  have n1 : n ≤ 140737488351232 := by omega
  have x0 : -1 ≤ x := hx.1
  have x1 : x < (k : Int) := hx.2
  have k1 : (k : Int) ≤ (s.size : Int) := by omega
  have k2 : (s.size : Int) ≤ 140737488351232 := by omega
  clear hsz hl hx hl0 hn hxx
  go_enter Tryd.func20, Tryd.ntmps20
  go_wp2_with (first
    | (go_at_call 35; go_loud (refine (CC.out _).mono ?_; rintro e w1 ⟨rfl, rfl⟩))
    | (go_at_call 36; go_loud (refine (CX.out _).mono ?_; rintro e w1 ⟨rfl, rfl⟩)))
  go_ret3
  exact ⟨ret_3i (by rw [← HN.out]; omega) HCO.out rfl, rfl⟩
set_option maxHeartbeats 4000000 in
theorem wrPlaceNo (s : ByteArray) (z : Int) (w : World) (hs : s.size ≤ 140737488351232) (h : z < 0 ∨ (s.size : Int) < z) :
    Calls Tryd.prog 21 #[.string s, .int .i64 z] w fun e w' => e = .returned (.tuple #[.int .i64 0, .int .i64 0, .int .i64 1]) ∧ w = w' := by
  rcases h with h | h
  · go_enter Tryd.func21, Tryd.ntmps21
    go_wp2
    go_ret3
    exact ⟨rfl, rfl⟩
  · have h0 : ¬ z < 0 := by omega
    go_enter Tryd.func21, Tryd.ntmps21
    go_wp2
    go_ret3
    exact ⟨rfl, rfl⟩
theorem colP_zero (s : ByteArray) : colP s 0 = 1 := by unfold colP Lib.lastIdx; rfl
theorem colP_succ (s : ByteArray) (k : Nat) (h : k < s.size) : colP s (k + 1) = if ((s[k]'h).toNat : Int) = 10 then 1 else colP s k + 1 := by
  have e : s.data[k]! = s[k]'h := by
    rw [getElem!_pos s.data k h]; rfl
  unfold colP
  rw [Lib.lastIdx, e]
  split <;> omega
theorem colP_le (s : ByteArray) (k : Nat) : 0 ≤ colP s k ∧ colP s k ≤ k + 1 := by
  have := lastIdx_le s 10 k
  unfold colP
  omega
set_option maxHeartbeats 4000000 in
theorem wrPlace (s : ByteArray) (k : Nat) (w : World) (hs : s.size ≤ 140737488351232) (hk : k ≤ s.size) :
    Calls Tryd.prog 21 #[.string s, .int .i64 (k : Nat)] w fun e w' => e = .returned (.tuple #[.int .i64 (lineP s k : Nat), .int .i64 (colP s k), .int .i64 0]) ∧ w = w' := by
  have k1 : (k : Int) ≤ (s.size : Int) := by omega
  have k2 : (s.size : Int) ≤ 140737488351232 := by omega
  go_enter Tryd.func21, Tryd.ntmps21
  go_wp2
  go_loop [7, 8, 9] (fun vl vc vi => ∃ (j : Nat) (l c : Int), vl = .int .i64 l ∧ vc = .int .i64 c ∧ vi = .int .i64 (j : Nat) ∧ j ≤ k ∧ l = (lineP s j : Nat) ∧ c = colP s j) (fun _ _ vi => k - (intOf vi).toNat)
  case atStart => exact ⟨0, 1, 1, rfl, rfl, rfl, Nat.zero_le _, by simp [lineP], (colP_zero s).symm⟩
  case round =>
    obtain ⟨j, l, c, rfl, rfl, rfl, hj, hl, hc⟩ := hrel
    have l1 := lineP_le s j
    have c1 := colP_le s j
    have l0 : 0 ≤ l := by omega
    have l2 : l ≤ 140737488351240 := by omega
    have c0 : 0 ≤ c := by omega
    have c2 : c ≤ 140737488351240 := by omega
    have HL := Lib.hid hl
    have HC := Lib.hid hc
    clear hl hc l1 c1
    by_cases hlt : j < k
    · have hjs : j < s.size := by omega
      have i1 : (j : Int) < (k : Int) := by omega
      rcases h10 : (((s[j]'hjs).toNat : Int) == 10) with _ | _
      · have E1 := Lib.hid (show l = (lineP s (j + 1) : Nat) by rw [lineP_snoc s j hjs, if_neg (by simpa using h10), HL.out]; rfl)
        have E2 := Lib.hid (show c + 1 = colP s (j + 1) by rw [colP_succ s j hjs, if_neg (by simpa using h10), HC.out])
        go_wp2
        go_round
        case rel => exact ⟨j + 1, l, c + 1, rfl, rfl, by go_num, by omega, E1.out, E2.out⟩
        case measure => simp [intOf]; omega
      · have E1 := Lib.hid (show l + 1 = (lineP s (j + 1) : Nat) by rw [lineP_snoc s j hjs, if_pos (by simpa using h10), HL.out]; omega)
        have E2 := Lib.hid (show 1 = colP s (j + 1) by rw [colP_succ s j hjs, if_pos (by simpa using h10)])
        go_wp2
        go_round
        case rel => exact ⟨j + 1, l + 1, 1, rfl, rfl, by go_num, by omega, E1.out, E2.out⟩
        case measure => simp [intOf]; omega
    · obtain rfl : j = k := by omega
      have i1 : ¬ (j : Int) < (j : Int) := by omega
      go_wp2
      go_ret3
      exact ⟨ret_3i HL.out HC.out rfl, rfl⟩
end Go.Proofs.YtagangneoibbcaaDoor
