/- live. -/
import Derived.Test.YtlhpoliiojekeaaPut
namespace Go.Proofs.Ytlhpoliiojekeaa
set_option maxRecDepth 100000
open Go.RowKit

def sA : ByteArray := ⟨#[97]⟩
def sB : ByteArray := ⟨#[98]⟩
theorem live_list : putP (putP [] sB 2) sA 1 = [(sA, 1), (sB, 2)] := by
  have h1 : putP [] sB 2 = [(sB, 2)] := by simp [putP, keys, rk, has]
  have h2 : kl sB sA = false := by unfold kl; rw [ByteArray.toList_eq, ByteArray.toList_eq]; rfl
  have h3 : sB ≠ sA := by decide
  rw [h1]
  simp [putP, keys, rk, has, List.takeWhile, h2, h3]
set_option maxHeartbeats 4000000 in
theorem wlive (w : World) : Calls Try.prog 10 #[] w fun e w' => e = .returned (.bool true) ∧ Gw w w' := by
  have C1 := Lib.hid (wnewT w 3 (by decide) (by decide))
  have C2 := Lib.hid fun W T (h : TreeAt W T 3 []) => wputT h (by simp) sB 2
  have C3 := Lib.hid fun W T (h : TreeAt W T 3 (putP [] sB 2)) => wputT h (by have := putP_len [] sB 2; simp at this; split at this <;> omega) sA 1
  have C4 := Lib.hid fun W T (h : TreeAt W T 3 (putP (putP [] sB 2) sA 1)) => (show Calls Try.prog 20 #[.pointer (some ⟨T, 0, none⟩), .int .i64 1] W fun e w' => e = .returned (.tuple #[.string ⟨#[98]⟩, .int .i64 2, .bool true]) ∧ ∃ j, w' = W.drewN j by
    have h := h
    rw [live_list] at h
    exact watT h (by simp) 1)
  unfold sA sB at C3 C4
  unfold sB at C2
  go_enter Try.func10, Try.ntmps10
  go_upto_region 4 with (first
    | (go_at_call 25; refine C1.out.mono ?_; rintro e w1 ⟨T, rfl, t1, l1, g1⟩; have T1 := Lib.hid t1; have L1 := Lib.hid l1; have G1 := Lib.hid g1; clear t1 l1 g1 C1))
  go_upto_region 5 with (go_at_call 17; go_loud (refine (C2.out _ _ T1.out).mono ?_; rintro e w2 ⟨rfl, t2, x2⟩; have T2 := Lib.hid t2; have X2 := Lib.hid x2; clear t2 x2 C2))
  go_upto_region 6 with (go_at_call 17; go_loud (refine (C3.out _ _ T2.out).mono ?_; rintro e w3 ⟨rfl, t3, x3⟩; have T3 := Lib.hid t3; have X3 := Lib.hid x3; clear t3 x3 C3))
  go_wp2_with (go_at_call 20; go_loud (refine (C4.out _ _ T3.out).mono ?_; rintro e w4 ⟨rfl, j, rfl⟩; clear C4))
  go_ret
  exact ⟨rfl, Gw.drewN (X3.out.below (X2.out.below G1.out L1.out) L1.out) _⟩
end Go.Proofs.Ytlhpoliiojekeaa
