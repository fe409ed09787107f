/- Layer 11: the reference's place and writes. -/
import Derived.Test.YtnpeankmmojebaaDoorJAH
import Derived.BigQuiet
set_option linter.unusedVariables false
namespace Go.Proofs.YtnpeankmmojebaaDoor
set_option maxRecDepth 100000
set_option maxRecDepth 100000
open Go.RowKit

/-- A history in a block of its own, as a function takes it. -/
structure Boxed (w W : World) (A : Option Addr) (n c : Nat) (B : Option Addr) (m d : Nat) (cs : List Int) (ac : List Ac) : Prop where
  eq : w.alloc (.cells #[.slice A n c, .slice B m d] 25) = W
  below : Below w.heap.size w W
  size : W.heap.size = w.heap.size + 1
  x0 : W.cell? ⟨w.heap.size, 0, none⟩ = some (.slice A n c)
  x1 : W.cell? ⟨w.heap.size, 1, none⟩ = some (.slice B m d)
  h : Hist W A n c B m d cs ac
theorem Hist.box {w : World} {A B : Option Addr} {n c m d : Nat} {cs : List Int} {ac : List Ac} (h : Hist w A n c B m d cs ac) : ∃ W, Boxed w W A n c B m d cs ac := by
  have b0 : Below w.heap.size w (w.alloc (.cells #[.slice A n c, .slice B m d] 25)) := alloc_below11 _ _
  have q0 := heap_alloc_new w (.cells #[.slice A n c, .slice B m d] 25)
  exact ⟨_, rfl, b0, by simp, cell_of_row _ _ 0 _ _ _ q0, cell_of_row _ _ 1 _ _ _ q0, h.gw b0⟩
/-- An act in a block of its own. -/
structure ActAt (w W : World) (a : Ac) : Prop where
  eq : w.alloc (.cells #[.int .i64 a.txn, .bool a.wr, .string a.item, .int .i64 a.ver] 39) = W
  below : Below w.heap.size w W
  size : W.heap.size = w.heap.size + 1
  d0 : W.cell? ⟨w.heap.size, 0, none⟩ = some (.int .i64 a.txn)
  d1 : W.cell? ⟨w.heap.size, 1, none⟩ = some (.bool a.wr)
  d2 : W.cell? ⟨w.heap.size, 2, none⟩ = some (.string a.item)
  d3 : W.cell? ⟨w.heap.size, 3, none⟩ = some (.int .i64 a.ver)
theorem Ac.box (w : World) (a : Ac) : ∃ W, ActAt w W a := by
  have q0 := heap_alloc_new w (.cells #[.int .i64 a.txn, .bool a.wr, .string a.item, .int .i64 a.ver] 39)
  exact ⟨_, rfl, alloc_below11 _ _, by simp, cell_of_row _ _ 0 _ _ _ q0, cell_of_row _ _ 1 _ _ _ q0, cell_of_row _ _ 2 _ _ _ q0, cell_of_row _ _ 3 _ _ _ q0⟩
theorem any_take11 {α : Type} {p : α → Bool} {l : List α} {k : Nat} {x : α} (h : l[k]? = some x) : (l.take (k + 1)).any p = ((l.take k).any p || p x) := by
  rw [List.take_add_one, h, Option.toList_some, List.any_append]; simp
theorem strEq11 (a b : ByteArray) : (a.toList == b.toList) = decide (a = b) := toList_beq8 a b
section
variable {w : World} {A B : Option Addr} {n c m d : Nat} {cs : List Int} {ac : List Ac}
set_option maxHeartbeats 8000000 in
theorem wrPlace (h : Hist w A n c B m d cs ac) (hn : n ≤ 4096) (t : Int) :
    Calls Tryd.prog 24 #[histV A n c B m d, .int .i64 t] w fun e w' => e = .returned (.int .i64 (plcP cs t)) ∧ Below w.heap.size w w' := by
  obtain ⟨W0, hB⟩ := h.box
  have HB := Lib.hid hB
  have x0 := hB.x0
  have HW := Lib.hid hB.eq
  have HN := Lib.hid hn
  clear h hB hn
  unfold histV
  go_enter Tryd.func24, Tryd.ntmps24
  go_upto_region 1 with fail
  rw [HW.out]
  go_upto_region 2 with fail
  go_loopw [5] (fun i wr => ∃ j : Nat, i = .int .i64 (j : Nat) ∧ j ≤ n ∧ (∀ x ∈ cs.take j, x ≠ t) ∧ wr = W0) (fun i _ => n - (intOf i).toNat)
  case atStart => exact ⟨0, rfl, Nat.zero_le _, by simp, rfl⟩
  case round =>
    rename World => wr
    obtain ⟨j, rfl, hj, ha, rfl⟩ := hrel
    by_cases hlt : j < n
    · obtain ⟨x, hx⟩ : ∃ x, cs[j]? = some x := ⟨_, List.getElem?_eq_getElem (by rw [HB.out.h.cl]; exact hlt)⟩
      obtain ⟨g, o, rfl, c0⟩ := HB.out.h.cb.num hx
      have i1 : (j : Int) < (n : Int) := by omega
      have l1 : (j : Int) ≤ 4096 := by have := HN.out; omega
      have l2 : (0 : Int) ≤ (j : Int) := by omega
      have HA := Lib.hid ha
      have HX := Lib.hid hx
      have HLT := Lib.hid hlt
      clear hx ha hj hlt
      by_cases hp : x = t
      · subst hp
        have HT := Lib.hid (show plcP cs x = (j : Int) from plcP_first HX.out HA.out)
        go_wp2
        go_ret
        exact ⟨by rw [HT.out]; rfl, HB.out.below⟩
      · have hp' : (x == t) = false := by simpa using hp
        go_wp2
        go_roundw
        case rel => exact ⟨j + 1, by go_num, HLT.out, fun y hy => by
          rw [List.take_add_one, HX.out] at hy
          rcases List.mem_append.1 hy with h1 | h1
          · exact HA.out y h1
          · rw [List.mem_singleton.1 h1]; exact hp, by first | rfl | trivial⟩
        case measure => have := HLT.out; simp [intOf]; omega
    · obtain rfl : j = n := by omega
      have i1 : ¬ (j : Int) < (j : Int) := by omega
      have HT := Lib.hid (show plcP cs t = -1 by
        rw [← HB.out.h.cl, List.take_length] at ha
        unfold plcP
        rw [if_neg (fun hm => ha t hm rfl)])
      clear ha hj hlt
      go_wp2
      go_ret
      exact ⟨by rw [HT.out]; rfl, HB.out.below⟩
set_option maxHeartbeats 8000000 in
theorem wrWrites (h : Hist w A n c B m d cs ac) (hm : m ≤ 4096) (t : Int) (it : ByteArray) :
    Calls Tryd.prog 40 #[histV A n c B m d, .int .i64 t, .string it] w fun e w' => e = .returned (.bool (writesP ac t it)) ∧ Below w.heap.size w w' := by
  obtain ⟨W0, hB⟩ := h.box
  have HB := Lib.hid hB
  have x1 := hB.x1
  have HW := Lib.hid hB.eq
  have HN := Lib.hid hm
  clear h hB hm
  unfold histV
  go_enter Tryd.func40, Tryd.ntmps40
  go_upto_region 1 with fail
  rw [HW.out]
  go_upto_region 2 with fail
  go_loopw [7] (fun i wr => ∃ j : Nat, i = .int .i64 (j : Nat) ∧ j ≤ m ∧ (ac.take j).any (wrB t it) = false ∧ wr = W0) (fun i _ => m - (intOf i).toNat)
  case atStart => exact ⟨0, rfl, Nat.zero_le _, by simp, rfl⟩
  case round =>
    rename World => wr
    obtain ⟨j, rfl, hj, ha, rfl⟩ := hrel
    by_cases hlt : j < m
    · obtain ⟨a, hx⟩ : ∃ a, ac[j]? = some a := ⟨_, List.getElem?_eq_getElem (by rw [HB.out.h.al]; exact hlt)⟩
      obtain ⟨g, o, rfl, c0, c1, c2, -⟩ := HB.out.h.act hx
      have i1 : (j : Int) < (m : Int) := by omega
      have l1 : (j : Int) ≤ 4096 := by have := HN.out; omega
      have l2 : (0 : Int) ≤ (j : Int) := by omega
      have HTK := Lib.hid (any_take11 (p := wrB t it) hx)
      have HA := Lib.hid ha
      have HLT := Lib.hid hlt
      have HWR := Lib.hid (show wrB t it a = true → writesP ac t it = true from fun k => List.any_eq_true.2 ⟨a, List.mem_of_getElem? hx, k⟩)
      clear hx ha hj hlt
      obtain ⟨at_, aw, ai, av⟩ := a
      dsimp only at *
      cases aw
      · have HT := Lib.hid (show (ac.take (j + 1)).any (wrB t it) = false by rw [HTK.out, HA.out]; simp [wrB])
        go_wp2
        go_roundw
        case rel => exact ⟨j + 1, by go_num, HLT.out, HT.out, by first | rfl | trivial⟩
        case measure => have := HLT.out; simp [intOf]; omega
      · by_cases ht : at_ = t
        · subst ht
          by_cases hi : ai = it
          · subst hi
            have HT := Lib.hid (HWR.out (by simp [wrB]))
            go_wp2
            go_ret
            exact ⟨by rw [HT.out]; rfl, HB.out.below⟩
          · have HT := Lib.hid (show (ac.take (j + 1)).any (wrB at_ it) = false by rw [HTK.out, HA.out]; simp [wrB, hi])
            have hi' : (ai.toList == it.toList) = false := by rw [strEq11]; simpa using hi
            go_wp2
            go_roundw
            case rel => exact ⟨j + 1, by go_num, HLT.out, HT.out, by first | rfl | trivial⟩
            case measure => have := HLT.out; simp [intOf]; omega
        · have HT := Lib.hid (show (ac.take (j + 1)).any (wrB t it) = false by rw [HTK.out, HA.out]; simp [wrB, ht])
          have ht' : (at_ == t) = false := by simpa using ht
          go_wp2
          go_roundw
          case rel => exact ⟨j + 1, by go_num, HLT.out, HT.out, by first | rfl | trivial⟩
          case measure => have := HLT.out; simp [intOf]; omega
    · obtain rfl : j = m := by omega
      have i1 : ¬ (j : Int) < (j : Int) := by omega
      have HT := Lib.hid (show writesP ac t it = false by
        rw [← HB.out.h.al, List.take_length] at ha
        exact ha)
      clear ha hj hlt
      go_wp2
      go_ret
      exact ⟨by rw [HT.out]; rfl, HB.out.below⟩
end
end Go.Proofs.YtnpeankmmojebaaDoor
