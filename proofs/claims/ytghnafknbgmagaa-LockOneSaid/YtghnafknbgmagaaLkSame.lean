/- Layer 8: the law's sameLocks and sameNumbers, where both are one. -/
import Derived.Test.YtghnafknbgmagaaLkHeld
namespace Go.Proofs.Ytghnafknbgmagaa
set_option maxRecDepth 100000
set_option maxRecDepth 100000
open Go.RowKit

theorem lkEq_self (x : Lk) : lkEq (x.1, x.2) (x.1, x.2) = true := by simp [lkEq]
theorem neqLk (w : World) (a b c d : ByteArray) : (binOp .neq 34 (.agg #[.string a, .string b]) (.agg #[.string c, .string d])).run Try.prog w = .ok (.bool (!lkEq (a, b) (c, d))) w := by
  have h := eqLk w a b c d
  rw [run_eql_struct] at h
  rw [run_neq_struct]
  cases hr : (Op.equalIn 10000 34 (.agg #[.string a, .string b]) (.agg #[.string c, .string d])).run Try.prog w with
  | ok r w1 =>
    rw [hr] at h
    simp only [Result.andThen_ok, Result.ok.injEq, Value.bool.injEq] at h ⊢
    exact ⟨by rw [h.1], h.2⟩
  | halt x w1 => rw [hr] at h; simp [Result.andThen] at h

set_option maxHeartbeats 2000000 in
theorem wsameLocks {w : World} {A B : Option Addr} {c1 c2 : Nat} {l : List Lk} (h1 : SB w A (2 * l.length) (cellsL l)) (h2 : SB w B (2 * l.length) (cellsL l)) (hn : l.length ≤ 10000000) :
    Calls Try.prog 18 #[.slice A l.length c1, .slice B l.length c2] w fun e w' => e = .returned (.bool true) ∧ Below w.heap.size w w' := by
  have H1 := Lib.hid h1
  have H2 := Lib.hid h2
  have HN := Lib.hid hn
  have qE := fun W a b c d => neqLk W a b c d
  clear h1 h2 hn
  go_enter Try.func18, Try.ntmps18
  go_wp2
  go_loopw [13] (fun i' wr => ∃ j : Nat, i' = .int .i64 (j : Nat) ∧ j ≤ l.length ∧ Below w.heap.size w wr) (fun i' _ => l.length - (intOf i').toNat)
  case atStart => exact ⟨0, rfl, Nat.zero_le _, Below.refl _ _⟩
  case round =>
    rename World => wr
    obtain ⟨j, rfl, hj, hb⟩ := hrel
    by_cases hlt : j < l.length
    · obtain ⟨x, hx⟩ : ∃ x, l[j]? = some x := ⟨_, List.getElem?_eq_getElem hlt⟩
      obtain ⟨g, o, rfl, x0⟩ := (H1.out.gw hb).at_ (cellsL_at _ _ _ hx).1
      obtain ⟨g1, o1, e1, x1⟩ := (H1.out.gw hb).at_ (cellsL_at _ _ _ hx).2
      cases e1
      obtain ⟨g2, o2, rfl, y0⟩ := (H2.out.gw hb).at_ (cellsL_at _ _ _ hx).1
      obtain ⟨g3, o3, e3, y1⟩ := (H2.out.gw hb).at_ (cellsL_at _ _ _ hx).2
      cases e3
      rw [Nat.mul_comm] at x0 x1 y0 y1
      rw [← Nat.add_assoc] at x1 y1
      have i1 : (j : Int) < (l.length : Int) := by omega
      have l1 : (j : Int) ≤ 10000000 := by have := HN.out; omega
      have HLT := Lib.hid hlt
      have HB := Lib.hid hb
      have he := lkEq_self x
      clear hj hlt hx hb
      go_upto_region 6 with fail
      go_region
      go_wp2
      go_roundw
      case rel => exact ⟨j + 1, by go_num, HLT.out, HB.out.drew⟩
      case measure => have := HLT.out; simp [intOf]; omega
    · have hje : j = l.length := by omega
      subst hje
      have i1 : ¬ (l.length : Int) < (l.length : Int) := by omega
      have HB := Lib.hid hb
      clear hj hlt hb
      go_wp2
      go_ret
      exact ⟨rfl, HB.out⟩

set_option maxHeartbeats 2000000 in
theorem wsameNumbers {w : World} {A B : Option Addr} {c1 c2 : Nat} {l : List Int} (h1 : SB w A l.length (numC l)) (h2 : SB w B l.length (numC l)) (hn : l.length ≤ 10000000) :
    Calls Try.prog 21 #[.slice A l.length c1, .slice B l.length c2] w fun e w' => e = .returned (.bool true) ∧ Below w.heap.size w w' := by
  have H1 := Lib.hid h1
  have H2 := Lib.hid h2
  have HN := Lib.hid hn
  clear h1 h2 hn
  go_enter Try.func21, Try.ntmps21
  go_wp2
  go_loopw [13] (fun i' wr => ∃ j : Nat, i' = .int .i64 (j : Nat) ∧ j ≤ l.length ∧ Below w.heap.size w wr) (fun i' _ => l.length - (intOf i').toNat)
  case atStart => exact ⟨0, rfl, Nat.zero_le _, Below.refl _ _⟩
  case round =>
    rename World => wr
    obtain ⟨j, rfl, hj, hb⟩ := hrel
    by_cases hlt : j < l.length
    · obtain ⟨x, hx⟩ : ∃ x, l[j]? = some x := ⟨_, List.getElem?_eq_getElem hlt⟩
      obtain ⟨g, o, rfl, x0⟩ := (H1.out.gw hb).at_ (numC_at hx)
      obtain ⟨g2, o2, rfl, y0⟩ := (H2.out.gw hb).at_ (numC_at hx)
      have i1 : (j : Int) < (l.length : Int) := by omega
      have l1 : (j : Int) ≤ 10000000 := by have := HN.out; omega
      have HLT := Lib.hid hlt
      have HB := Lib.hid hb
      clear hj hlt hx hb
      go_upto_region 6 with fail
      go_region
      go_wp2
      go_roundw
      case rel => exact ⟨j + 1, by go_num, HLT.out, HB.out.drew⟩
      case measure => have := HLT.out; simp [intOf]; omega
    · have hje : j = l.length := by omega
      subst hje
      have i1 : ¬ (l.length : Int) < (l.length : Int) := by omega
      have HB := Lib.hid hb
      clear hj hlt hb
      go_wp2
      go_ret
      exact ⟨rfl, HB.out⟩
end Go.Proofs.Ytghnafknbgmagaa
