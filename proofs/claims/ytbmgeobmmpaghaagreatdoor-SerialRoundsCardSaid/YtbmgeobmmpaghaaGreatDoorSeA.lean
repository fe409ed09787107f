/- Layer 11: the program's places and sameKeys. -/
import Derived.Test.YtbmgeobmmpaghaaGreatDoorSeM
set_option linter.unusedVariables false
namespace Go.Proofs.YtbmgeobmmpaghaaGreatDoor
set_option maxRecDepth 100000
open Go.RowKit Go.Maps Go.ChangeMaps Go.MapKept

set_option maxHeartbeats 8000000 in
theorem wsPlaces {w : World} {A : Option Addr} {n c : Nat} {l : List Int} (h : SB w A n (numC l)) (hl : l.length = n) (hw : ∀ x ∈ l, wfI x) (hn : n < 4611686018427387904) :
    Calls Tryz.prog 50 #[.slice A n c] w fun e w' => ∃ r, e = .returned (.tuple #[.map (some r), .bool (decide l.Nodup)]) ∧ MapM KN w' r (plM l n) ∧ w.heap.size ≤ r ∧ Below w.heap.size w w' := by
  obtain ⟨W0, hW0⟩ : ∃ W, w.alloc (.map #[] 0) = W := ⟨_, rfl⟩
  have m0 : MapM KN W0 w.heap.size [] := by rw [← hW0]; exact MapM.new KN w
  have b0 : Below w.heap.size w W0 := by rw [← hW0]; exact alloc_below11 _ _
  have rm : (Instr.makeMap mapII (some (.int .i64 (n : Int)))).run Tryz.prog w = .ok (.map (some w.heap.size)) W0 := by rw [← hW0]; exact run_makeMap11 mapII_und w _
  have M0 := Lib.hid m0
  have B0 := Lib.hid b0
  have HS := Lib.hid h
  have HL := Lib.hid hl
  have HW := Lib.hid hw
  have HN := Lib.hid hn
  have HE := Lib.hid (show decide l.Nodup = (((plM l n).length : Int) == (n : Int)) by
    have := plM_len l n (by omega)
    rw [← hl, List.take_length, hl] at this
    by_cases e : l.Nodup
    · simp [e, this.2 e]
    · simp only [e, decide_false]
      symm
      have h2 : ¬ (plM l n).length = n := fun e2 => e (this.1 e2)
      simp; omega)
  clear m0 b0 hW0 h hl hw hn
  go_enter Tryz.func50, Tryz.ntmps50
  go_upto_region 3 with fail
  go_loopw [12] (fun i wr => ∃ j : Nat, i = .int .i64 (j : Nat) ∧ j ≤ n ∧ MapM KN wr w.heap.size (plM l j) ∧ Below w.heap.size w wr) (fun i _ => n - (intOf i).toNat)
  case atStart => exact ⟨0, rfl, Nat.zero_le _, M0.out, B0.out⟩
  case round =>
    rename World => wr
    obtain ⟨j, rfl, hj, hm, hbl⟩ := hrel
    by_cases hlt : j < n
    · obtain ⟨x, hx⟩ : ∃ x, l[j]? = some x := ⟨_, List.getElem?_eq_getElem (by rw [HL.out]; exact hlt)⟩
      obtain ⟨g, o, rfl, c0⟩ := (HS.out.gw hbl).num hx
      have i1 : (j : Int) < (n : Int) := by omega
      have l1 : (j : Int) ≤ 4611686018427387904 := by have := HN.out; omega
      have HX := Lib.hid (HW.out x (List.mem_of_getElem? hx))
      have HT := Lib.hid (plM_next hx)
      have HM := Lib.hid hm
      have HBL := Lib.hid hbl
      have HLT := Lib.hid hlt
      have HLE := Lib.hid (plM_le l j)
      clear hx hm hbl hj hlt
      go_wp2_with (at_mapUpdate; go_loud (refine wp_put11 KN (by rfl) (.tmp 17) (.tmp 18) (.tmp 19) (by rfl) (by rfl) HM.out mapII_und x HX.out (by rfl) (by have := HLE.out; have := HN.out; have := HLT.out; omega) ?_; intro w5 m5 o5; have M5 := Lib.hid m5; have O5 := Lib.hid o5; clear m5 o5; go_frame))
      go_roundw
      case rel =>
        refine ⟨j + 1, by go_num, HLT.out, by rw [HT.out]; exact M5.out, HBL.out.trans (O5.out.below HBL.out.size fun i hi e => by omega)⟩
      case measure => have := HLT.out; simp [intOf]; omega
    · obtain rfl : j = n := by omega
      have i1 : ¬ (j : Int) < (j : Int) := by omega
      have HM := Lib.hid hm
      have HBL := Lib.hid hbl
      have HML := Lib.hid (hm.len mapII_und 3)
      clear hj hlt hm hbl
      have ML := HML.out
      go_wp2
      go_ret2
      exact ⟨_, by rw [HE.out]; rfl, HM.out, Nat.le_refl _, HBL.out⟩
/-- The numbers of a list, each of which stands there once, are those that have a place. -/
def sameP (l cs : List Int) : Bool := (cs.all fun x => decide (x ∈ l)) && decide ((plM l l.length).length = cs.length)
set_option maxHeartbeats 8000000 in
theorem wsSame {w : World} {r : Nat} {l : List Int} (hM : MapM KN w r (plM l l.length)) {A : Option Addr} {n c : Nat} {cs : List Int} (h : SB w A n (numC cs)) (hl : cs.length = n) (hw : ∀ x ∈ cs, wfI x) (hn : n ≤ 4096) (hln : l.length < 4611686018427387904) :
    Calls Tryz.prog 51 #[.map (some r), .slice A n c] w fun e w' => e = .returned (.bool (sameP l cs)) ∧ w' = w := by
  have HM := Lib.hid hM
  have HS := Lib.hid h
  have HL := Lib.hid hl
  have HW := Lib.hid hw
  have HN := Lib.hid hn
  have HML := Lib.hid (hM.len mapII_und 3)
  have HP := Lib.hid (plM_has l l.length)
  have HLE := Lib.hid (show ((plM l l.length).length : Int) < 4611686018427387904 by have := plM_le l l.length; omega)
  clear hM h hl hw hn hln
  go_enter Tryz.func51, Tryz.ntmps51
  go_upto_region 2 with fail
  go_loopw [11] (fun i wr => ∃ j : Nat, i = .int .i64 (j : Nat) ∧ j ≤ n ∧ (cs.take j).all (fun x => decide (x ∈ l)) = true ∧ wr = w) (fun i _ => n - (intOf i).toNat)
  case atStart => exact ⟨0, rfl, Nat.zero_le _, by simp, rfl⟩
  case round =>
    rename World => wr
    obtain ⟨j, rfl, hj, ha, rfl⟩ := hrel
    by_cases hlt : j < n
    · obtain ⟨x, hx⟩ : ∃ x, cs[j]? = some x := ⟨_, List.getElem?_eq_getElem (by rw [HL.out]; exact hlt)⟩
      obtain ⟨g, o, rfl, c0⟩ := HS.out.num hx
      have i1 : (j : Int) < (n : Int) := by omega
      have l1 : (j : Int) ≤ 4096 := by have := HN.out; omega
      have HX := Lib.hid (HW.out x (List.mem_of_getElem? hx))
      have lk : (Instr.lookup mapII (.map (some r)) (.int .i64 x) true).run Tryz.prog wr = .ok (.tuple #[(getM (plM l l.length) x).getD (.int .i64 0), .bool (getM (plM l l.length) x).isSome]) wr := HM.out.look11 mapII_und (zeroI wr) (x := x) HX.out
      rw [HP.out x, List.take_length] at lk
      have HA := Lib.hid ha
      have HXX := Lib.hid hx
      have HLT := Lib.hid hlt
      generalize (getM (plM l l.length) x).getD (.int .i64 0) = v at lk
      clear hx ha hj hlt
      by_cases hin : x ∈ l
      · rw [show decide (x ∈ l) = true by simpa using hin] at lk
        go_wp2
        go_roundw
        case rel => exact ⟨j + 1, by go_num, HLT.out, by rw [List.take_add_one, HXX.out]; simp only [Option.toList_some, List.all_append, HA.out, Bool.true_and, List.all_cons, List.all_nil, Bool.and_true]; simpa using hin, by first | rfl | trivial⟩
        case measure => have := HLT.out; simp [intOf]; omega
      · rw [show decide (x ∈ l) = false by simpa using hin] at lk
        have HF := Lib.hid (show sameP l cs = false by
          unfold sameP
          rw [show (cs.all fun x => decide (x ∈ l)) = false from List.all_eq_false.2 ⟨x, List.mem_of_getElem? HXX.out, by simpa using hin⟩]
          rfl)
        go_wp2
        go_ret
        exact ⟨by rw [HF.out]; rfl, rfl⟩
    · obtain rfl : j = n := by omega
      have i1 : ¬ (j : Int) < (j : Int) := by omega
      have HF := Lib.hid (show sameP l cs = (((plM l l.length).length : Int) == (j : Int)) by
        unfold sameP
        rw [← HL.out, List.take_length] at ha
        rw [ha, Bool.true_and, HL.out]
        by_cases e : (plM l l.length).length = j
        · simp [e]
        · simp only [e, decide_false]; symm; simp; omega)
      have ML := HML.out
      have LE := HLE.out
      clear hj hlt ha
      go_wp2
      go_ret
      exact ⟨by rw [HF.out]; rfl, rfl⟩
end Go.Proofs.YtbmgeobmmpaghaaGreatDoor
