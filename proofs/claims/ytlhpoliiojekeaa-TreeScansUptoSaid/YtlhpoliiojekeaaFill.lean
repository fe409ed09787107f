/- large, small, place. -/
import Derived.Test.YtlhpoliiojekeaaKidP
namespace Go.Proofs.Ytlhpoliiojekeaa
set_option maxRecDepth 100000
open Go.RowKit

set_option maxHeartbeats 1000000 in
theorem wlarge {ord : Nat} {w : World} {T d : Nat} {r v : Value} {ps : List Pr} {m : Nat} (hT : TrAt w T ord r) (h : NodeAt ord w d v ps m) (ho : 1 ≤ ord) (ho2 : ord ≤ 1000) :
    Calls Try.prog 55 #[.pointer (some ⟨T, 0, none⟩), v] w fun e w' => e = .returned (.bool (decide (most ord d < m))) ∧ ∃ k, w' = w.drewN k := by
  have CF := Lib.hid (wfill hT h ho ho2)
  have hcast : (decide (((most ord d : Nat) : Int) < (m : Int))) = decide (most ord d < m) := by simp
  have HC := Lib.hid hcast
  clear hT h hcast
  go_enter Try.func55, Try.ntmps55
  go_wp2_with (go_at_call 67; refine CF.out.mono ?_; rintro e w1 ⟨rfl, k, rfl⟩)
  go_ret
  exact ⟨by rw [← HC.out]; rfl, ⟨_, rfl⟩⟩

set_option maxHeartbeats 1000000 in
theorem wsmall {ord : Nat} {w : World} {T d : Nat} {r v : Value} {ps : List Pr} {m : Nat} (hT : TrAt w T ord r) (h : NodeAt ord w d v ps m) (ho : 1 ≤ ord) (ho2 : ord ≤ 1000) :
    Calls Try.prog 73 #[.pointer (some ⟨T, 0, none⟩), v] w fun e w' => e = .returned (.bool (decide (m < (most ord d + 1) / 2))) ∧ ∃ k, w' = w.drewN k := by
  have CF := Lib.hid (wfill hT h ho ho2)
  have hmo : most ord d ≤ 1000 := by unfold most; split <;> omega
  obtain ⟨q, hq⟩ : ∃ q, most ord d = q := ⟨_, rfl⟩
  rw [hq] at CF hmo ⊢
  have hcast : (decide ((m : Int) < ((q : Int) + 1).tdiv 2)) = decide (m < (q + 1) / 2) := by
    rw [Int.tdiv_eq_ediv_of_nonneg (by omega)]
    have : ((q : Int) + 1) / 2 = (((q + 1) / 2 : Nat) : Int) := by omega
    exact decide_eq_decide.2 (by omega)
  have HC := Lib.hid hcast
  clear hT h hcast hq
  go_enter Try.func73, Try.ntmps73
  go_wp2_with (go_at_call 67; refine CF.out.mono ?_; rintro e w1 ⟨rfl, k, rfl⟩)
  go_ret
  exact ⟨by rw [← HC.out]; first | rfl | (congr 2; simp; omega), ⟨_, rfl⟩⟩

set_option maxHeartbeats 1000000 in
theorem wplace {N : Value → List Pr → Nat → Prop} {w : World} {g : Nat} {ps : List Pr} {ks : List ByteArray} {kids : List Kid} (h : InC N w g ps ks kids) (hn : ks.length ≤ 100000) (k : ByteArray) :
    Calls Try.prog 53 #[.pointer (some ⟨g, 0, none⟩), .string k] w fun e w' => e = .returned (.int .i64 (pl ks k : Nat)) ∧ w' = w := by
  obtain ⟨A, c, B, e, h0, h1, -⟩ := h.row
  have c0 : w.cell? ⟨g, 0, none⟩ = some (.slice A ks.length c) := by rw [cell_of_row _ _ _ _ _ _ h0]; rfl
  have CB := Lib.hid (wbin w A ks.length c ks k h1 h.rise (by omega))
  have hrk := rk_le ks k
  obtain ⟨q, hq⟩ : ∃ q, rk ks k = q := ⟨_, rfl⟩
  rw [hq] at CB hrk
  cases hb : has ks k
  · have HP := Lib.hid (show pl ks k = q by unfold pl; rw [hb, hq]; simp)
    rw [hb] at CB
    clear h0 h1 h hb hq
    go_enter Try.func53, Try.ntmps53
    go_wp2_with (go_at_call 52; refine CB.out.mono ?_; rintro e w1 ⟨rfl, rfl⟩)
    go_ret
    exact ⟨by rw [HP.out]; rfl, rfl⟩
  · have HP := Lib.hid (show ((pl ks k : Nat) : Int) = (q : Int) + 1 by unfold pl; rw [hb, hq]; simp)
    rw [hb] at CB
    clear h0 h1 h hb hq
    go_enter Try.func53, Try.ntmps53
    go_wp2_with (go_at_call 52; refine CB.out.mono ?_; rintro e w1 ⟨rfl, rfl⟩)
    go_ret
    exact ⟨by rw [HP.out]; rfl, rfl⟩
end Go.Proofs.Ytlhpoliiojekeaa
