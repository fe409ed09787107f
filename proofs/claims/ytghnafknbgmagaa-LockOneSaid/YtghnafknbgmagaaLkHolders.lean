/- Layer 8: the reference's Holders. -/
import Derived.Test.YtghnafknbgmagaaLkRise
import Derived.Test.YtghnafknbgmagaaLkSmall
namespace Go.Proofs.Ytghnafknbgmagaa
set_option maxRecDepth 100000
set_option maxRecDepth 100000
open Go.RowKit

def inH (table lo hi : ByteArray) (h : Hd) : Bool := h.1.1.toList == table.toList && withinB h.1.2 lo hi
/-- Who holds a row of a range, in the order of the list. -/
def whoP (hs : List Hd) (table lo hi : ByteArray) : List Int := (hs.filter (inH table lo hi)).map (·.2)
theorem whoP_take {hs : List Hd} {table lo hi : ByteArray} {j : Nat} {p : Hd} (hp : hs[j]? = some p) : whoP (hs.take (j + 1)) table lo hi = whoP (hs.take j) table lo hi ++ (if inH table lo hi p then [p.2] else []) := by
  unfold whoP
  rw [List.take_add_one, hp, List.filter_append, List.map_append]
  congr 1
  by_cases h : inH table lo hi p = true <;> simp [h]
theorem whoP_len (hs : List Hd) (table lo hi : ByteArray) (j : Nat) : (whoP (hs.take j) table lo hi).length ≤ hs.length := by
  unfold whoP
  rw [List.length_map]
  have h1 := List.length_filter_le (inH table lo hi) (hs.take j)
  have h2 := List.length_take_le' j hs
  omega

set_option maxHeartbeats 8000000 in
theorem wrHolders {w : World} {b : Nat} {most : Int} {hs : List Hd} (h : RM w b most hs) (hn : hs.length ≤ 4000000) (table lo hi : ByteArray) :
    Calls Try.prog 22 #[.pointer (some ⟨b, 0, none⟩), .string table, .string lo, .string hi] w fun e w' => ∃ v, e = .returned v ∧ SO seN w.heap.size w' v (riseP (whoP hs table lo hi)).length (numC (riseP (whoP hs table lo hi))) ∧ Below w.heap.size w w' := by
  obtain ⟨A, c, h1, h2, h3, h4, h5⟩ := h.ex
  have H1 := Lib.hid h1
  have HS := Lib.hid h2
  have HN := Lib.hid hn
  have HBS := Lib.hid (Array.getElem?_eq_some_iff.1 h1).1
  have CW := Lib.hid fun W k => wrWithin W k lo hi
  clear h h1 h2 h3 h4 h5 hn
  go_enter Try.func22, Try.ntmps22
  go_upto_region 3 with fail
  go_loopw [9, 10] (fun lv i' wr => ∃ j : Nat, i' = .int .i64 (j : Nat) ∧ j ≤ hs.length ∧ SO seN w.heap.size wr lv (whoP (hs.take j) table lo hi).length (numC (whoP (hs.take j) table lo hi)) ∧ Below w.heap.size w wr) (fun _ i' _ => hs.length - (intOf i').toNat)
  case atStart => exact ⟨0, rfl, Nat.zero_le _, SO.nil _ _ _, Below.refl _ _⟩
  case round =>
    rename World => wr
    obtain ⟨j, rfl, hj, ho, hb⟩ := hrel
    have HO := Lib.hid ho
    have HB := Lib.hid hb
    have c2 : wr.cell? ⟨b, 2, none⟩ = some (.slice A hs.length c) := cell_of_row _ _ 2 _ _ _ ((hb.block b HBS.out).trans H1.out)
    have HS2 := Lib.hid (HS.out.gw hb)
    have LL := Lib.hid (whoP_len hs table lo hi j)
    clear ho hb
    by_cases hlt : j < hs.length
    · obtain ⟨p, hp⟩ : ∃ p, hs[j]? = some p := ⟨_, List.getElem?_eq_getElem hlt⟩
      obtain ⟨g, o, rfl, c0⟩ := HS2.out.at_ (cellsH_at _ _ _ hp).1
      obtain ⟨g1, o1, e1, c1⟩ := HS2.out.at_ (cellsH_at _ _ _ hp).2.1
      obtain ⟨g2, o2, e2, c3⟩ := HS2.out.at_ (cellsH_at _ _ _ hp).2.2
      cases e1; cases e2
      rw [Nat.mul_comm] at c0 c1 c3
      rw [← Nat.add_assoc] at c1 c3
      have i1 : (j : Int) < (hs.length : Int) := by omega
      have l1 : (j : Int) ≤ 10000000 := by have := HN.out; omega
      have HLT := Lib.hid hlt
      have HT := Lib.hid (whoP_take (table := table) (lo := lo) (hi := hi) hp)
      clear hj hlt hp
      cases ht : (p.1.1.toList == table.toList)
      · have HE := Lib.hid (show inH table lo hi p = false by unfold inH; rw [ht]; rfl)
        go_wp2
        go_roundw
        case rel => exact ⟨j + 1, by go_num, HLT.out, by rw [HT.out, HE.out]; simp only [Bool.false_eq_true, if_false, List.append_nil]; exact HO.out, HB.out⟩
        case measure => have := HLT.out; simp [intOf]; omega
      · cases hw : withinB p.1.2 lo hi
        · have HE := Lib.hid (show inH table lo hi p = false by unfold inH; rw [ht, hw]; rfl)
          go_wp2_with (go_at_call 37; go_loud (refine (CW.out _ _).mono ?_; rintro e w1 ⟨rfl, hw1⟩; replace hw1 := hw1.symm; subst hw1; rw [hw]))
          go_roundw
          case rel => exact ⟨j + 1, by go_num, HLT.out, by rw [HT.out, HE.out]; simp only [Bool.false_eq_true, if_false, List.append_nil]; exact HO.out, HB.out⟩
          case measure => have := HLT.out; simp [intOf]; omega
        · have HE := Lib.hid (show inH table lo hi p = true by unfold inH; rw [ht, hw]; rfl)
          go_wp2_with (first
            | (go_at_call 37; go_loud (refine (CW.out _ _).mono ?_; rintro e w1 ⟨rfl, hw1⟩; replace hw1 := hw1.symm; subst hw1; rw [hw]))
            | (at_builtin; go_loud (refine so_append seN_ok (by rfl) (.tmp 45) (.tmp 54) (by rfl) _ (by rfl) (HO.out.alloc _) (some ⟨wr.heap.size, 0, none⟩) 1 1 (numC [p.2]) (by rfl) (sb_num wr p.2) (by have := LL.out; have := HN.out; simp; omega) (by have := HB.out.size; simp; omega) ?_; intro v3 w3 o3 b3; have O3 := Lib.hid o3; have B3 := Lib.hid b3; clear o3 b3)))
          go_roundw
          case rel => exact ⟨j + 1, by go_num, HLT.out, by rw [HT.out, HE.out]; simp only [if_true]; exact O3.out.base (Nat.le_refl _) (by simp [numC]) (by simp), (HB.out.alloc HB.out.size _).trans B3.out⟩
          case measure => have := HLT.out; simp [intOf]; omega
    · have hje : j = hs.length := by omega
      subst hje
      have i1 : ¬ (hs.length : Int) < (hs.length : Int) := by omega
      rw [List.take_length] at HO LL
      obtain ⟨A2, c', rfl, hsb, -, -, -⟩ := HO.out.form
      rw [show seN.s * (whoP hs table lo hi).length = (whoP hs table lo hi).length from Nat.one_mul _] at hsb
      have CR := Lib.hid (wrRise (c := c') hsb (by have := LL.out; have := HN.out; omega))
      clear hj hlt hsb
      go_wp2_with (go_at_call 38; go_loud (refine CR.out.mono ?_; rintro e w1 ⟨v1, rfl, ho1, hb1⟩; have O1 := Lib.hid ho1; have B1 := Lib.hid hb1; clear ho1 hb1))
      go_ret
      exact ⟨_, rfl, O1.out.base HB.out.size rfl rfl, below_next HB.out B1.out⟩
end Go.Proofs.Ytghnafknbgmagaa
