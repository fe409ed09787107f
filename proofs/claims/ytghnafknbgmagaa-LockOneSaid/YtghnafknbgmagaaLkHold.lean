/- Layer 8: the reference's Holder. -/
import Derived.Test.YtghnafknbgmagaaLkP
namespace Go.Proofs.Ytghnafknbgmagaa
set_option maxRecDepth 100000
set_option maxRecDepth 100000
open Go.RowKit

theorem holderP_none {hs : List Hd} {l : Lk} (h : ∀ (j : Nat) (p : Hd), hs[j]? = some p → lkEq p.1 l = false) : holderP hs l = none := by
  unfold holderP
  rw [List.find?_eq_none.2]; · rfl
  intro x hx
  obtain ⟨j, hj⟩ := List.mem_iff_getElem?.1 hx
  simp [h j x hj]
theorem holderP_some {hs : List Hd} {l : Lk} {i : Nat} {p : Hd} (hp : hs[i]? = some p) (e : lkEq p.1 l = true) (h : ∀ (j : Nat) (q : Hd), j < i → hs[j]? = some q → lkEq q.1 l = false) : holderP hs l = some p.2 := by
  induction hs generalizing i with
  | nil => cases hp
  | cons x xs ih =>
    unfold holderP
    cases i with
    | zero =>
      cases hp
      rw [List.find?_cons_of_pos (by exact e)]; rfl
    | succ i =>
      have h0 := h 0 x (by omega) rfl
      rw [List.find?_cons_of_neg (by simp [h0])]
      exact ih hp fun j q hj hq => h (j + 1) q (by omega) hq

set_option maxHeartbeats 2000000 in
theorem wrHolder {w : World} {b : Nat} {most : Int} {hs : List Hd} (h : RM w b most hs) (hn : hs.length ≤ 10000000) (l : Lk) :
    Calls Try.prog 29 #[.pointer (some ⟨b, 0, none⟩), lkV l] w fun e w' => e = .returned (.tuple #[.int .i64 ((holderP hs l).getD 0), .bool (holderP hs l).isSome]) ∧ Below w.heap.size w w' := by
  obtain ⟨A, c, h1, h2, -⟩ := h.ex
  obtain ⟨W, hW⟩ : ∃ W, w.alloc (.cells #[.string l.1, .string l.2] 34) = W := ⟨_, rfl⟩
  have HB := Lib.hid (show Below w.heap.size w W by rw [← hW]; exact (Below.refl _ _).alloc (Nat.le_refl _) _)
  have q0 : W.heap[w.heap.size]? = some (.cells #[.string l.1, .string l.2] 34 (0, 0)) := by rw [← hW]; exact heap_alloc_new _ _
  have q1 : W.cell? ⟨w.heap.size, 0, none⟩ = some (.string l.1) := cell_of_row _ _ 0 _ _ _ q0
  have q2 : W.cell? ⟨w.heap.size, 1, none⟩ = some (.string l.2) := cell_of_row _ _ 1 _ _ _ q0
  have c2 : W.cell? ⟨b, 2, none⟩ = some (.slice A hs.length c) := cell_of_row _ _ 2 _ _ _ (((HB.out).block b (Array.getElem?_eq_some_iff.1 h1).1).trans h1)
  have HS := Lib.hid (h2.gw HB.out)
  have HN := Lib.hid hn
  have HW := Lib.hid hW
  have qE := fun W a b c d => eqLk W a b c d
  clear h h1 h2 hW q0 hn
  unfold lkV
  go_enter Try.func29, Try.ntmps29
  go_upto_region 2 with fail
  rw [HW.out]
  go_loopw [6] (fun i' wr => ∃ j : Nat, i' = .int .i64 (j : Nat) ∧ j ≤ hs.length ∧ Below W.heap.size W wr ∧ ∀ (k : Nat) (q : Hd), k < j → hs[k]? = some q → lkEq q.1 l = false) (fun i' _ => hs.length - (intOf i').toNat)
  case atStart => exact ⟨0, rfl, Nat.zero_le _, Below.refl _ _, fun k q hk => by omega⟩
  case round =>
    rename World => wr
    obtain ⟨j, rfl, hj, hb, hno⟩ := hrel
    replace q1 := keep_below q1 hb
    replace q2 := keep_below q2 hb
    replace c2 := keep_below c2 hb
    have HS2 := Lib.hid (HS.out.gw hb)
    have HBW := Lib.hid hb
    clear hb
    by_cases hlt : j < hs.length
    · obtain ⟨p, hp⟩ : ∃ p, hs[j]? = some p := ⟨_, List.getElem?_eq_getElem hlt⟩
      obtain ⟨g, o, rfl, c0⟩ := HS2.out.at_ (cellsH_at _ _ _ hp).1
      obtain ⟨g1, o1, e1, c1⟩ := HS2.out.at_ (cellsH_at _ _ _ hp).2.1
      obtain ⟨g2, o2, e2, c3⟩ := HS2.out.at_ (cellsH_at _ _ _ hp).2.2
      cases e1; cases e2
      rw [Nat.mul_comm] at c0 c1 c3
      rw [← Nat.add_assoc] at c1 c3
      have i1 : (j : Int) < (hs.length : Int) := by omega
      have l1 : (j : Int) ≤ 10000000 := by have := HN.out; omega
      have HLT := Lib.hid hlt
      have HP := Lib.hid hp
      have HNO := Lib.hid hno
      clear hj hlt hp hno
      cases he : lkEq p.1 l
      · have he' : lkEq (p.1.1, p.1.2) (l.1, l.2) = false := he
        go_upto_region 4 with fail
        go_region
        go_wp2
        go_roundw
        case rel => exact ⟨j + 1, by go_num, HLT.out, HBW.out.drew, fun k q hk hq => by
          rcases Nat.lt_or_ge k j with h1 | h1
          · exact HNO.out k q h1 hq
          · have : k = j := by omega
            subst this
            rw [HP.out] at hq; cases hq; exact he⟩
        case measure => have := HLT.out; simp [intOf]; omega
      · have he' : lkEq (p.1.1, p.1.2) (l.1, l.2) = true := he
        go_upto_region 4 with fail
        go_region
        go_wp2
        refine bodyPost_ret (v := .tuple #[.int .i64 p.2, .bool true]) (by simp [results, Try.results29, go_sem]) rfl ⟨?_, below_next HB.out (by first | exact HBW.out | exact HBW.out.drew)⟩
        rw [holderP_some HP.out he HNO.out]; first | done | rfl
    · have i1 : ¬ (j : Int) < (hs.length : Int) := by omega
      have HNO := Lib.hid (show holderP hs l = none from holderP_none fun k p hk => hno k p (by have := (List.getElem?_eq_some_iff.1 hk).1; omega) hk)
      clear hj hlt hno
      go_wp2
      refine bodyPost_ret (v := .tuple #[.int .i64 0, .bool false]) (by simp [results, Try.results29, go_sem]) rfl ⟨?_, below_next HB.out (by first | exact HBW.out | exact HBW.out.drew)⟩
      rw [HNO.out]; first | done | rfl
end Go.Proofs.Ytghnafknbgmagaa
